"""Promise 4: changes."""

import unittest

from texts import LETTERS, ROUND, SQUARE, bits, mixed, nest, short_programs, signs, tree
from toldloops.loops import changes


def changed_by_the_words(statements):
    """The letters that stand first in a statement x=0, x=y, x+ or x- anywhere."""
    found = set()
    for x, sign, rest in statements:
        if sign in "([":
            found |= changed_by_the_words(rest)
        else:
            found.add(x)
    return found


class Changes(unittest.TestCase):
    def change(self, text, letters):
        self.assertEqual(changes(signs(text)), [bits(letters)], text)

    def test_empty(self):
        self.assertEqual(changes([]), [0])

    def test_numbers(self):
        self.assertEqual(changes(signs("a+")), [1])
        self.assertEqual(changes(signs("b+")), [2])
        self.assertEqual(changes(signs("c-a=0")), [5])
        self.assertEqual(changes(signs("z+")), [2**25])
        self.assertEqual(changes(signs("z=a")), [33554432])

    def test_each_statement_of_each_variable(self):
        for k, x in enumerate(LETTERS):
            for rest in ("=0", "+", "-"):
                self.assertEqual(changes(signs(x + rest)), [2**k], x + rest)

    def test_set_to_another(self):
        for x in LETTERS:
            for y in LETTERS:
                self.change(x + "=" + y, x)

    def test_what_is_set_to_stands_ahead_of_each_sign(self):
        self.change("a=bc+", "ac")
        self.change("a=bc=d", "ac")
        self.change("a=bc(d=e)", "ad")
        self.change("a(b=c)d[e=f]", "be")

    def test_the_head_of_a_loop_alone(self):
        for x in LETTERS:
            self.change(x + "()", "")
            self.change(x + "[]", "")
        self.change("a(b[c()])", "")
        self.change("a(b+)", "b")
        self.change("a[b-]", "b")
        self.change("a[a-]", "a")

    def test_a_head_that_changes_elsewhere(self):
        self.change("a(b+)a=0", "ab")
        self.change("a+a[b=c]", "ab")
        self.change("a(b(a-))", "a")

    def test_rows(self):
        self.change("a+b-c=0d=e", "abcd")
        self.change("a+a+a-a=0a=a", "a")
        self.change("z=yy=x", "zy")

    def test_within_loops_and_behind_them(self):
        self.change("a(b+)c+", "bc")
        self.change("a[b=0]c=d", "bc")
        self.change("a(b[c-d(e=f)g+]h=0)i-j()k=l", "ceghik")
        self.change("a+b(c+d[e+]f+)g+", "acefg")

    def test_twice_the_same(self):
        self.change("a+b(a-)a=0", "a")
        self.change("c+c[c+]", "c")

    def test_all_at_once(self):
        for rest in ("=0", "+", "-", "=a"):
            self.assertEqual(changes(signs("".join(x + rest for x in LETTERS))), [2**26 - 1])
        self.assertEqual(changes(signs("".join("a(" + x + "+)" for x in LETTERS))), [2**26 - 1])

    def test_all_but_one(self):
        for left in LETTERS:
            others = LETTERS.replace(left, "")
            self.change("".join(x + "=" + left for x in others), others)

    def test_64_deep(self):
        for kinds in ([ROUND] * 64, [SQUARE] * 64, mixed(64)):
            self.change(nest(kinds), "")
            self.change(nest(kinds, "a=bz-"), "az")
            self.change("c+" + nest(kinds, "a=b") + "x+", "acx")

    def test_400_bytes(self):
        for text, letters in (
            ("a+" * 200, "a"),
            ("a=b" * 132 + "z+y-", "ayz"),
            (nest(mixed(64), "q-" * 104), "q"),
            ("b()" * 132 + "z-y+", "yz"),
        ):
            self.assertEqual(len(text), 400)
            self.change(text, letters)

    def test_short_programs_by_the_words(self):
        for text in short_programs("ab", 8):
            self.change(text, changed_by_the_words(tree(text)))


if __name__ == "__main__":
    unittest.main()
