"""Promise 2: told."""

import unittest

from texts import ROUND, SQUARE, mixed, nest, signs
from toldloops.loops import told


class Told(unittest.TestCase):
    def tell(self, text, answer):
        self.assertEqual(told(signs(text)), [answer], text)

    def test_empty(self):
        self.assertEqual(told([]), [1])

    def test_without_loops(self):
        for text in ("a=0", "a=b", "a+", "z-", "a+b-c=0d=e"):
            self.tell(text, 1)

    def test_loops_that_say_how_often(self):
        for text in ("a()", "a(b+)", "a(b(c-))d(e=0)", "a()b()c()", "z+a(z=a)"):
            self.tell(text, 1)

    def test_deep_loops_that_say_how_often(self):
        for depth in range(1, 65):
            self.tell(nest([ROUND] * depth), 1)
            self.tell(nest([ROUND] * depth, "a+"), 1)

    def test_a_loop_that_goes_on(self):
        for text in ("a[]", "a[b-]", "a[a-]b+", "a+b-c[c-]", "z=0z[]", "a[b[c[]]]"):
            self.tell(text, 0)

    def test_a_loop_that_goes_on_beside_others(self):
        for text in ("a()b[]", "a[]b()", "a(b+)c[c-]d(e+)", "a+" * 100 + "a[]"):
            self.tell(text, 0)

    def test_a_loop_that_goes_on_within_others(self):
        for text in ("a(b[])", "a(b[b-])", "a(b(c(d[])))", "a(b+c[d+]e-)", "a[b()]", "a[b(c+)]"):
            self.tell(text, 0)

    def test_one_that_goes_on_at_each_depth(self):
        for place in range(64):
            kinds = [ROUND] * 64
            kinds[place] = SQUARE
            self.tell(nest(kinds), 0)
        self.tell(nest([SQUARE] * 64), 0)
        self.tell(nest(mixed(64)), 0)

    def test_400_bytes(self):
        for text, answer in (
            ("a+" * 200, 1),
            (nest([ROUND] * 64, "b-" * 104), 1),
            ("a=0" + "b-" * 197 + "c[]", 0),
            ("c[]" + "b-" * 197 + "a=0", 0),
        ):
            self.tell(text, answer)
        self.assertEqual(len(nest([ROUND] * 64, "b-" * 104)), 400)


if __name__ == "__main__":
    unittest.main()
