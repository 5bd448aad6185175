"""Promise 2: depth."""

import unittest

from texts import ROUND, SQUARE, mixed, nest, short_programs, signs, tree
from toldloops.loops import depth


def depth_by_the_words(statements):
    """0 without loops, else the greatest of the loops' depths, each one more than its P's."""
    loops = [inner for x, sign, inner in statements if sign in "(["]
    return max([depth_by_the_words(inner) + 1 for inner in loops], default=0)


class Depth(unittest.TestCase):
    def reach(self, text, answer):
        self.assertEqual(depth(signs(text)), [answer], text)

    def test_empty(self):
        self.assertEqual(depth([]), [0])

    def test_without_loops(self):
        for text in ("a=0", "a=b", "a+", "a-", "a+b-c=0d=e", "a+a+a+a+"):
            self.reach(text, 0)

    def test_one_loop(self):
        for text in ("a()", "a[]", "a(b+)", "a[a-]", "b+a()c-", "a=0z[]", "z[]a=0"):
            self.reach(text, 1)

    def test_loops_behind_one_another(self):
        for text in ("a()b()", "a[]b[]", "a()b[]c(d+)e+", "a()" * 133):
            self.reach(text, 1)

    def test_loops_within_one_another(self):
        self.reach("a(b())", 2)
        self.reach("a[b[]]", 2)
        self.reach("a(b[c+])", 2)
        self.reach("a[b+c(d[e=0])f-]", 3)

    def test_the_deepest_first(self):
        self.reach("a(b(c[]))d()", 3)
        self.reach("a[b(c[])d()]e()f[]", 3)
        self.reach(nest(mixed(20)) + nest(mixed(5)) + "a+", 20)

    def test_the_deepest_last(self):
        self.reach("a()b(c(d[]))", 3)
        self.reach("a()b[]c[d()e(f[])]", 3)
        self.reach("a+" + nest(mixed(5)) + nest(mixed(20)), 20)

    def test_the_deepest_in_the_middle(self):
        self.reach("a()b(c[d()])e[]", 3)
        self.reach("a[b()c(d[])e()]", 3)
        self.reach(nest(mixed(5)) + nest(mixed(20)) + nest(mixed(6)), 20)
        self.reach(nest([ROUND], nest([SQUARE] * 3) + nest([ROUND] * 9) + nest([ROUND] * 4)), 10)

    def test_each_depth(self):
        for many in range(65):
            self.reach(nest([ROUND] * many), many)
            self.reach(nest([SQUARE] * many), many)
            self.reach(nest(mixed(many)), many)
            self.reach(nest(mixed(many), "a+b=c"), many)

    def test_64_deep_among_others(self):
        self.reach(nest(mixed(63), "a()b[]c(d+)"), 64)
        self.reach(nest(mixed(64)) + nest(mixed(64)), 64)

    def test_400_bytes(self):
        for text, answer in (
            ("a+" * 200, 0),
            (nest([ROUND] * 64, "b-" * 104), 64),
            (nest([SQUARE] * 64, "b-" * 104), 64),
            ("b-" * 104 + nest(mixed(64)), 64),
            ("a=0" + "b-" * 197 + "c[]", 1),
        ):
            self.assertEqual(len(text), 400)
            self.reach(text, answer)

    def test_short_programs_by_the_words(self):
        for text in short_programs("a", 10):
            self.reach(text, depth_by_the_words(tree(text)))


if __name__ == "__main__":
    unittest.main()
