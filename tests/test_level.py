"""Promise 6: level."""

import unittest

from texts import ROUND, SQUARE, mixed, nest, short_programs, signs, squared, tree
from toldloops.loops import level


def level_by_the_words(statements):
    if not statements:
        return 0
    x, sign, rest = statements[0]
    following = level_by_the_words(statements[1:])
    if sign not in "([":
        return following + 2
    m = level_by_the_words(rest) + 1
    if m < 2:
        m = 2
    k = m + 2
    if following > k:
        k = following
    return k + 2


class Level(unittest.TestCase):
    def reach(self, text, answer):
        self.assertEqual(level(signs(text)), [answer], text)

    def reach_both(self, text, answer):
        """The same of the text with loops of the other kind."""
        self.reach(text, answer)
        self.reach(squared(text), answer)

    def test_empty(self):
        self.assertEqual(level([]), [0])

    def test_small_statements(self):
        for text in ("a=0", "a=b", "a=a", "a+", "a-", "z=0", "z=a", "z+", "z-"):
            self.reach(text, 2)

    def test_rows(self):
        self.reach("a+b+", 4)
        self.reach("a=0b=c", 4)
        self.reach("a+b-c=0d=e", 8)
        self.reach("a=aa=aa=a", 6)

    def test_each_length_of_a_row(self):
        for many in range(134):
            self.reach("a+" * many, 2 * many)
            self.reach("a=0" * many, 2 * many)
            self.reach("a=b" * many, 2 * many)

    def test_an_empty_p(self):
        # m is 2, not 1, and k is 4.
        self.reach_both("a()", 6)

    def test_a_p_of_level_2_and_more(self):
        for many in range(1, 50):
            self.reach_both("a(" + "b+" * many + ")", 2 * many + 5)
        self.reach_both("a(b=cc=0)", 9)

    def test_an_empty_p_and_statements_behind(self):
        # Up to level 4 behind it the loop's own 4 is as great.
        for behind, answer in ((0, 6), (1, 6), (2, 6), (3, 8), (4, 10), (5, 12)):
            self.reach_both("a()" + "b+" * behind, answer)

    def test_a_p_and_statements_behind(self):
        # P's level is 4: m is 5 and k is 7, or what follows from level 8 on.
        for behind, answer in ((0, 9), (1, 9), (3, 9), (4, 10), (5, 12), (100, 202)):
            self.reach_both("a(b+c-)" + "d=0" * behind, answer)

    def test_statements_ahead(self):
        self.reach_both("b+a()", 8)
        self.reach_both("b+c=0a(d-)", 11)
        self.reach_both("b+a()c+d+e+", 10)

    def test_loops_behind_one_another(self):
        self.reach_both("a()b()", 8)
        self.reach_both("a()b()c()", 10)
        self.reach_both("a(b+c+d+)e()", 11)
        self.reach_both("e()a(b+c+d+)", 13)
        self.reach_both("a(b+c+)d()e+", 9)

    def test_loops_within_loops(self):
        self.reach_both("a(b())", 11)
        self.reach_both("a(b(c()))", 16)
        self.reach_both("a(b(c+))", 12)
        self.reach_both("a(b()c+)", 11)
        self.reach_both("a(c+b())", 13)
        self.reach_both("a(b()c())d+", 13)
        self.reach_both("a(b(c+d+)e+)f(g())h=0", 14)

    def test_kinds_in_one_another(self):
        self.reach("a(b[])", 11)
        self.reach("a[b()]", 11)
        self.reach("a[b(c[d+])]e()", 17)

    def test_each_depth(self):
        for many in range(1, 65):
            for kinds in ([ROUND] * many, [SQUARE] * many, mixed(many)):
                self.reach(nest(kinds), 5 * many + 1)
                self.reach(nest(kinds, "a+"), 5 * many + 2)
                self.reach(nest(kinds) + "a+", 5 * many + 1)
                self.reach("a+" + nest(kinds), 5 * many + 3)

    def test_64_deep(self):
        self.reach(nest([ROUND] * 64), 321)
        self.reach(nest([SQUARE] * 64), 321)
        self.reach(nest(mixed(64)) + nest(mixed(64)), 323)
        self.reach(nest(mixed(64)) + nest(mixed(63)), 321)

    def test_400_bytes(self):
        for text, answer in (
            ("a+" * 200, 400),
            ("a-" * 200, 400),
            ("a=b" * 132 + "z+y-", 268),
            ("a=0" * 132 + "z+y-", 268),
            (nest(mixed(64), "q-" * 104), 5 * 64 + 208),
            (nest(mixed(64)) + "q-" * 104, 321),
            ("q-" * 104 + nest(mixed(64)), 321 + 208),
            ("a()" * 132 + "z+y-", 6 + 2 * 131),
        ):
            self.assertEqual(len(text), 400)
            self.reach(text, answer)

    def test_short_programs_by_the_words(self):
        for text in short_programs("a", 11):
            self.reach(text, level_by_the_words(tree(text)))


if __name__ == "__main__":
    unittest.main()
