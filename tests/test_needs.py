"""Promise 5: needs."""

import itertools
import unittest

from texts import LETTERS, ROUND, SQUARE, bits, short_programs, signs, squared, tree
from toldloops.loops import needs

ALL = 2**26 - 1
UP = "".join(x + "=" + y for x, y in zip(LETTERS, LETTERS[1:]))
DOWN = "".join(x + "=" + y for x, y in reversed(list(zip(LETTERS, LETTERS[1:]))))


def around(heads, inner="", kinds=(ROUND,), between=""):
    """Loops of these heads within one another, by turns of these kinds, with between ahead of each inner one."""
    text = inner
    for k in reversed(range(len(heads))):
        kind = kinds[k % len(kinds)]
        text = heads[k] + kind[0] + text + kind[1]
        if k > 0:
            text = between + text
    return text


class NeedsTest(unittest.TestCase):
    def need(self, text, after, before):
        self.assertEqual(needs(bits(after), signs(text)), [bits(before)], (text, after))

    def need_both(self, text, after, before):
        """The same of the text with loops of the other kind."""
        self.need(text, after, before)
        self.need(squared(text), after, before)


class SmallStatements(NeedsTest):
    def test_none(self):
        for after in (0, 1, 2, 5, 2**25, 0b1010101, ALL - 1, ALL):
            self.assertEqual(needs(after, []), [after])
        for k in range(26):
            self.assertEqual(needs(2**k, []), [2**k])

    def test_numbers(self):
        self.assertEqual(needs(1, signs("a=b")), [2])
        self.assertEqual(needs(1, signs("a=z")), [2**25])
        self.assertEqual(needs(2**25, signs("z=a")), [1])
        self.assertEqual(needs(0, signs("a()")), [1])
        self.assertEqual(needs(0, signs("z[]")), [2**25])
        self.assertEqual(needs(ALL, signs("z=0")), [2**25 - 1])

    def test_set_to_0(self):
        self.need("a=0", "a", "")
        self.need("a=0", "ab", "b")
        self.need("a=0", "b", "b")
        self.need("a=0", "", "")
        self.need("m=0", LETTERS, LETTERS.replace("m", ""))

    def test_set_to_another(self):
        self.need("a=b", "a", "b")
        self.need("a=b", "ab", "b")
        self.need("a=b", "b", "b")
        self.need("a=b", "ac", "bc")
        self.need("a=b", "c", "c")
        self.need("a=b", "", "")
        self.need("b=a", "b", "a")
        self.need("m=n", LETTERS, LETTERS.replace("m", ""))

    def test_set_to_itself(self):
        for after in ("", "a", "b", "ab", LETTERS):
            self.need("a=a", after, after)

    def test_add_and_take(self):
        for text in ("a+", "a-"):
            for after in ("", "a", "b", "ab", LETTERS):
                self.need(text, after, after)

    def test_each_variable(self):
        for x in LETTERS:
            self.need(x + "=0", x, "")
            self.need(x + "+", x, x)
            self.need(x + "-", x, x)
            self.need_both(x + "()", "", x)
            for y in LETTERS:
                self.need(x + "=" + y, x, y)

    def test_rows_are_read_from_their_end(self):
        self.need("a=bb=0", "a", "b")
        self.need("b=0a=b", "a", "")
        self.need("a=bb=c", "ab", "bc")
        self.need("a=bb=c", "a", "b")
        self.need("b=ca=b", "a", "c")
        self.need("b=ca=b", "ab", "c")
        self.need("a=ba=c", "a", "c")
        self.need("a=ba+", "a", "b")
        self.need("a+a=b", "a", "b")
        self.need("a=0a+", "a", "")
        self.need("a-a=0a-", "ab", "b")

    def test_two_are_swapped(self):
        self.need("c=aa=bb=c", "a", "b")
        self.need("c=aa=bb=c", "b", "a")
        self.need("c=aa=bb=c", "c", "a")
        self.need("c=aa=bb=c", "abc", "ab")

    def test_long_rows(self):
        self.need(UP, "a", "b")
        self.need(DOWN, "a", "z")
        self.need(UP, LETTERS, LETTERS[1:])
        self.need(DOWN, LETTERS, "z")
        self.need("".join(x + "=0" for x in LETTERS), LETTERS, "")


class OneLoop(NeedsTest):
    def test_an_empty_p(self):
        for after in ("", "a", "b", "ab", LETTERS):
            self.need_both("a()", after, "a" + after)

    def test_the_head_is_set_within(self):
        self.need_both("a(a=0)", "", "a")
        self.need_both("a(a=0)", "ab", "ab")
        self.need_both("a(a=b)", "", "ab")
        self.need_both("a(a=a)", "", "a")
        self.need_both("a(a-b+)", "", "a")

    def test_what_is_needed_behind_stays(self):
        self.need_both("a(b=0)", "b", "ab")
        self.need_both("a(b=c)", "b", "abc")
        self.need_both("a(b=c)", "", "a")
        self.need_both("a(b=c)", "c", "ac")
        self.need_both("a(b=0b=c)", "b", "abc")
        self.need_both("a(b=cb=0)", "b", "ab")

    def test_statements_behind_and_ahead(self):
        self.need_both("a(b=c)b=0", "b", "a")
        self.need_both("b=0a(b=c)", "b", "ac")
        self.need_both("a=0a(b=c)", "b", "bc")
        self.need_both("a=da(b=c)c=e", "bc", "bcde")
        self.need_both("a()a=0", "a", "a")
        self.need_both("a=0a()", "a", "")

    def test_chains_that_go_round(self):
        self.need_both("x(a=bb=cc=d)", "a", "abcdx")
        self.need_both("x(a=bb=cc=d)", "b", "bcdx")
        self.need_both("x(a=bb=cc=d)", "c", "cdx")
        self.need_both("x(a=bb=cc=d)", "d", "dx")
        self.need_both("x(a=bb=cc=d)", "", "x")
        self.need_both("a(a=bb=cc=d)", "", "abcd")

    def test_chains_in_the_other_order(self):
        self.need_both("x(c=db=ca=b)", "a", "adx")
        self.need_both("x(c=db=ca=b)", "b", "bdx")
        self.need_both("x(c=db=ca=b)", "ab", "abdx")
        self.need_both("x(c=db=ca=b)", "c", "cdx")
        self.need_both("x(c=db=ca=b)", "", "x")
        self.need_both("a(c=db=ca=b)", "", "ad")

    def test_chains_of_all_letters(self):
        self.need_both("z(" + UP + ")", "a", LETTERS)
        self.need_both("a(" + UP + ")", "", LETTERS)
        for k in range(26):
            self.need_both("z(" + UP + ")", LETTERS[k], LETTERS[k:])
            self.need_both("z(" + DOWN + ")", LETTERS[k], LETTERS[k] + "z")
        self.need_both("a(" + DOWN + ")", "", "az")

    def test_rings(self):
        self.need_both("x(a=bb=cc=a)", "a", "abcx")
        self.need_both("x(a=bb=cc=a)", "c", "bcx")
        self.need_both("x(d=aa=bb=cc=d)", "b", "abcx")
        self.need_both("x(a=bb=a)", "a", "abx")
        self.need_both("x(a=bb=a)", "b", "bx")


class SeveralLoops(NeedsTest):
    def test_within_one_another(self):
        self.need_both("a(b())", "", "ab")
        self.need_both("a(b(c=d))", "c", "abcd")
        self.need_both("a(b(c=d))", "", "ab")
        self.need_both("a(b(c=d))c=0", "c", "ab")
        self.need_both("a(c=0b(c=d))", "c", "abcd")
        self.need_both("a(b=0b(c=d))", "c", "acd")
        self.need_both("a(b(b=c)b=0)", "", "abc")
        self.need_both("a(b(c=d)b=0)", "c", "abcd")

    def test_the_outer_goes_round_for_the_inner(self):
        self.need_both("a(b(c=d)d=e)", "c", "abcde")
        self.need_both("a(d=eb(c=d))", "c", "abce")
        self.need_both("a(b(c=d)d=ee=f)", "c", "abcdef")
        self.need_both("a(b(c=d)e(f=c)d=g)", "f", "abcdefg")
        self.need_both("a(b(c(d=e)e=f)f=g)", "d", "abcdefg")

    def test_mixed_kinds(self):
        self.need("a[b(c=d)d=e]", "c", "abcde")
        self.need("a(b[c=d]d=e)", "c", "abcde")
        self.need("a(b[c(d=e)e=f]f=g)", "d", "abcdefg")

    def test_behind_one_another(self):
        self.need_both("a()b()", "", "ab")
        self.need_both("a(b=c)d(e=b)", "e", "abcde")
        self.need_both("d(e=b)a(b=c)", "e", "abde")
        self.need_both("a(b=c)a=0a(c=d)", "b", "abc")
        self.need_both("a(b=c)b=0b(c=d)", "c", "acd")

    def test_8_nested(self):
        for kinds in ((ROUND,), (SQUARE,), (ROUND, SQUARE)):
            self.need(around("abcdefgh", "", kinds), "", "abcdefgh")
            self.need(around("abcdefgh", "", kinds), "cz", "abcdefghz")
            self.need(around("aaaaaaaa", "", kinds), "", "a")
            self.need(around("abcdefgh", "h=ii=jj=k", kinds), "", "abcdefghijk")
            self.need(around("abcdefgh", "j=ki=jh=i", kinds), "", "abcdefghk")
            self.need(around("aaaaaaaa", UP, kinds), "", LETTERS)
            self.need(around("aaaaaaaa", DOWN, kinds), "", "az")

    def test_8_nested_with_rows_between(self):
        # b is set to 0 ahead of each inner loop of b, so b isn't needed ahead of all.
        self.need("b=0" + around("bbbbbbbb", "c=d", (ROUND,), "b=0"), "c", "cd")
        self.need("b=0" + around("bbbbbbbb", "c=d", (ROUND,), "b=e"), "c", "cde")
        self.need("b=0" + around("bbbbbbbb", "c=d", (SQUARE,), "d=c"), "d", "cd")

    def test_8_in_a_row(self):
        self.need_both("".join(x + "()" for x in "abcdefgh"), "", "abcdefgh")
        self.need_both("".join("x(" + x + "=" + y + ")" for x, y in zip("abcdefgh", "bcdefghi")), "a", "abx")
        self.need_both("".join("x(" + x + "=" + y + ")" for x, y in zip("hgfedcba", "ihgfedcb")), "a", "abcdefghix")
        self.need_both("x(" + UP + ")" + "y()" * 7, "a", LETTERS)

    def test_after_0(self):
        self.need("a=bb=cc+d-", "", "")
        self.need_both("a(b=c)d(e(f=0))", "", "ade")

    def test_after_all(self):
        self.need("a=0b=cd+e-", LETTERS, LETTERS[2:])
        self.need_both("a(b=0)c(d(e=0))", LETTERS, LETTERS)
        self.need_both("a=0a(b=0)", LETTERS, LETTERS[1:])


class LongTexts(NeedsTest):
    def test_400_bytes(self):
        for text, after, before in (
            ("a+" * 200, "a", "a"),
            ("a=b" * 132 + "z+y-", "a", "b"),
            ("a(" + "b-" * 197 + "c=b)", "c", "abc"),
            ("a[" + "b-" * 197 + "c=b]", "c", "abc"),
        ):
            self.assertEqual(len(text), 400)
            self.need(text, after, before)

    def test_long_rows_8_deep(self):
        for kinds in ((ROUND,), (SQUARE,), (ROUND, SQUARE)):
            for rows in (UP * 4 + "z=a" * 25, DOWN * 4 + "z=a" * 25, (UP + DOWN) * 2 + "a=z" * 25):
                self.assertEqual(len(around("abcdefgh", rows, kinds)), 399)
                self.need(around("abcdefgh", rows, kinds), LETTERS, LETTERS)

    def test_long_rows_at_each_depth(self):
        # The inner loops need what the rows behind them in the outer ones set.
        steps = [x + "=" + y for x, y in zip(LETTERS, LETTERS[1:])]
        for kinds in ((ROUND,), (SQUARE,), (ROUND, SQUARE)):
            slow = ""
            quick = ""
            for k in range(8):
                row = "".join(steps[3 * k : 3 * k + 3])
                kind = kinds[k % len(kinds)]
                slow = "y" + kind[0] + slow + row + "z+" * 18 + kind[1]
                # Five times the row in one P takes each letter to the row's last one.
                quick = "y" + kind[0] + quick + row * 5 + kind[1]
            for text in (slow, quick):
                for after in LETTERS:
                    self.need(text, after, needs_by_rounds({after}, tree(text)))
            for after in (0, 12, 20):
                self.need(slow, LETTERS[after], LETTERS[after:25])
            self.need(quick, "a", LETTERS[::3])
            self.need(quick, "m", LETTERS[12::3])
            self.need(slow, "", "y")
            self.need(quick, "", "y")

    def test_long_rows_ahead_of_each_inner_loop(self):
        for kinds in ((ROUND,), (SQUARE,), (ROUND, SQUARE)):
            self.need(around("aaaaaaaa", UP, kinds, UP[:39]), "", LETTERS)
            self.need(around("aaaaaaaa", UP, kinds, DOWN[:39]), "", LETTERS[:12] + "z")
            self.need(around("aaaaaaaa", UP, kinds, DOWN[:39]), LETTERS, LETTERS)


def needs_by_the_words(after, statements, sets):
    """What's needed before the statements; a loop's least set is looked for among all sets."""
    needed = after
    for x, sign, rest in reversed(statements):
        if sign == "=":
            source = {rest} - {"0"} if x in needed else set()
            needed = (needed - {x}) | source
        elif sign in "([":
            closed = [
                one
                for one in sets
                if {x} <= one and needed <= one and needs_by_the_words(one, rest, sets) <= one
            ]
            needed = frozenset.intersection(*closed)
            assert needed in closed
    return frozenset(needed)


def needs_by_rounds(after, statements):
    """The same for many variables: a loop's set is grown from anew until a round adds nothing."""
    needed = after
    for x, sign, rest in reversed(statements):
        if sign == "=":
            source = {rest} - {"0"} if x in needed else set()
            needed = (needed - {x}) | source
        elif sign in "([":
            before = None
            needed = needed | {x}
            while needed != before:
                before = needed
                needed = before | needs_by_rounds(before, rest)
    return needed


class ByRounds(NeedsTest):
    def test_long_texts(self):
        rows = (UP, DOWN, UP[:39], DOWN[:39], UP[36:], DOWN[36:])
        for kinds in ((ROUND,), (SQUARE,), (ROUND, SQUARE)):
            for inner in rows:
                for between in rows[2:]:
                    for heads in ("aaaaaaaa", "zyxwvuts", "aemquybz"):
                        text = around(heads, inner, kinds, between[:39])
                        self.assertLessEqual(len(text), 400)
                        for after in ("", "a", "m", LETTERS):
                            self.need(text, after, needs_by_rounds(set(after), tree(text)))


class ByTheWords(NeedsTest):
    def compare(self, letters, longest):
        rows = [itertools.combinations(letters, many) for many in range(len(letters) + 1)]
        sets = [frozenset(one) for row in rows for one in row]
        for text in short_programs(letters, longest):
            statements = tree(text)
            for after in sets:
                self.need(text, after, needs_by_the_words(after, statements, sets))

    def test_short_programs_of_two_variables(self):
        self.compare("ab", 8)

    def test_short_programs_of_three_variables(self):
        self.compare("abc", 6)

    def test_chains_and_loops_in_all_orders(self):
        sets = [frozenset(one) for many in range(5) for one in itertools.combinations("abcd", many)]
        pieces = ["a=b", "b=c", "c=d"]
        for row in itertools.permutations(pieces):
            for form in ("d({}{}{})", "d[{}d({}){}]", "d({}d({}d[{}]))", "d(d(d({}){}){})", "d[{}]d({})d({})"):
                text = form.format(*row)
                for after in sets:
                    self.need(text, after, needs_by_the_words(after, tree(text), sets))


if __name__ == "__main__":
    unittest.main()
