"""Promise 3: run."""

import unittest

from texts import LETTERS, ROUND, SQUARE, mixed, nest, short_programs, signs, tree
from toldloops.loops import run

GREATEST = 2**62 - 1
LONGEST = 20000


def filled(**named):
    """The 26 variables: those that are named, the others 0."""
    return [named.get(letter, 0) for letter in LETTERS]


class RunTest(unittest.TestCase):
    def end(self, text, before, steps, after, limit=LONGEST):
        """The program takes just so many steps, told if the limit is at least these."""
        self.assertEqual(run(limit, list(before), signs(text)), [steps] + after, text)
        self.assertEqual(run(steps, list(before), signs(text)), [steps] + after, text)
        if steps > 0:
            self.go_on(text, before, steps - 1)

    def go_on(self, text, before, limit=LONGEST):
        """The program takes more steps than the limit."""
        self.assertEqual(run(limit, list(before), signs(text)), [-1] + before, text)


class SmallStatements(RunTest):
    def test_none(self):
        self.end("", filled(), 0, filled())
        self.end("", filled(a=3, z=GREATEST), 0, filled(a=3, z=GREATEST))

    def test_set_to_0(self):
        self.end("a=0", filled(a=5, b=7), 1, filled(b=7))
        self.end("a=0", filled(), 1, filled())

    def test_set_to_another(self):
        self.end("a=b", filled(a=5, b=7, c=1), 1, filled(a=7, b=7, c=1))
        self.end("b=a", filled(a=5, b=7, c=1), 1, filled(a=5, b=5, c=1))
        self.end("a=b", filled(a=5), 1, filled())

    def test_set_to_itself(self):
        self.end("a=a", filled(a=5, b=7), 1, filled(a=5, b=7))
        self.end("z=z", filled(), 1, filled())

    def test_add(self):
        self.end("a+", filled(a=5, b=7), 1, filled(a=6, b=7))
        self.end("a+", filled(), 1, filled(a=1))

    def test_take(self):
        self.end("a-", filled(a=5, b=7), 1, filled(a=4, b=7))
        self.end("a-", filled(a=1), 1, filled())

    def test_take_from_0(self):
        self.end("a-", filled(b=7), 1, filled(b=7))
        self.end("a-a-a-a+", filled(a=1), 4, filled(a=1))

    def test_rows(self):
        self.end("a+b=ac=0b+", filled(c=9), 4, filled(a=1, b=2))
        self.end("a=bb=cc=a", filled(a=1, b=2, c=3), 3, filled(a=2, b=3, c=2))
        self.end("a=bb=0a-", filled(b=4), 3, filled(a=3))
        self.end("a+" * 200, filled(), 200, filled(a=200))


class LoopsThatSayHowOften(RunTest):
    def test_no_round(self):
        self.end("a()", filled(), 1, filled())
        self.end("a(b+)", filled(b=3), 1, filled(b=3))
        self.end("a(b+c[d(e+)])b+", filled(b=3, d=4), 2, filled(b=4, d=4))

    def test_one_round(self):
        self.end("a()", filled(a=1), 2, filled(a=1))
        self.end("a(b+)", filled(a=1), 3, filled(a=1, b=1))

    def test_several_rounds(self):
        self.end("a(b+)", filled(a=5, b=2), 11, filled(a=5, b=7))
        self.end("a(b+c=b)d+", filled(a=3), 11, filled(a=3, b=3, c=3, d=1))

    def test_the_rounds_stay_as_many(self):
        self.end("a(a+)", filled(a=4), 9, filled(a=8))
        self.end("a(a-)", filled(a=4), 9, filled())
        self.end("a(a=0b+)", filled(a=4), 13, filled(b=4))
        self.end("a(a-a-b+)", filled(a=3), 13, filled(b=3))
        self.end("a(a=bb+)", filled(a=2, b=9), 7, filled(a=10, b=11))

    def test_an_empty_p_with_many_rounds(self):
        self.end("a()", filled(a=9), 10, filled(a=9))
        self.end("a()", filled(a=LONGEST - 1), LONGEST, filled(a=LONGEST - 1))
        self.go_on("a()", filled(a=LONGEST))

    def test_loops_within_loops(self):
        # Each round of a: one, and b's loop with one and b rounds of 2.
        self.end("a(b(c+))", filled(a=3, b=4), 1 + 3 * (1 + 1 + 4 * 2), filled(a=3, b=4, c=12))
        self.end("a(b(c(d+)))", filled(a=2, b=2, c=2), 1 + 2 * (2 + 2 * (2 + 2 * 2)), filled(a=2, b=2, c=2, d=8))
        self.end("a(b()c())", filled(a=2, b=1, c=3), 1 + 2 * (1 + 2 + 4), filled(a=2, b=1, c=3))

    def test_the_same_variable_within_itself(self):
        # The inner loop counts a anew in each round: 1, 2 and 4 times.
        self.end("a(b(b+))", filled(a=3, b=1), 1 + 3 * 2 + (1 + 2 + 4) * 2, filled(a=3, b=8))
        self.end("a(a(a+))", filled(a=2), 1 + 2 * 2 + (2 + 4) * 2, filled(a=8))
        self.end("a(a(a-))", filled(a=2), 1 + 2 * 2 + 2 * 2, filled())

    def test_loops_behind_one_another(self):
        self.end("a(b+)b(c+)", filled(a=2, b=1), 5 + 7, filled(a=2, b=3, c=3))
        self.end("a()b()", filled(a=2), 4, filled(a=2))

    def test_a_sum_a_product_and_a_power(self):
        self.end("c=aa=0b(c(a+))", filled(a=6, b=7), 2 + 1 + 7 * (2 + 6 * 2), filled(a=42, b=7, c=6))
        self.end("b+a(c=bb(c+)b=c)", filled(a=5), 1 + 1 + 5 * 4 + (1 + 2 + 4 + 8 + 16) * 2, filled(a=5, b=32, c=32))

    def test_64_deep(self):
        ones = [1] * 26
        self.end(nest([ROUND] * 64), ones, 128, ones)
        self.end(nest([ROUND] * 64, "a+"), ones, 129, [2] + [1] * 25)
        self.go_on(nest([ROUND] * 64), [2] * 26)


class LoopsThatGoOn(RunTest):
    def test_0_at_once(self):
        self.end("a[]", filled(), 1, filled())
        self.end("a[b+]", filled(b=3), 1, filled(b=3))
        self.end("a[b+c(d[e+])]b+", filled(b=3, d=4), 2, filled(b=4, d=4))

    def test_several_rounds(self):
        self.end("a[a-]", filled(a=1), 3, filled())
        self.end("a[a-]", filled(a=5), 11, filled())
        self.end("a[a-b+]", filled(a=3, b=4), 10, filled(b=7))
        self.end("a[a=0]", filled(a=9), 3, filled())
        self.end("a[a=bb-]c+", filled(a=9, b=2), 4 + 3 * 2 + 1, filled(c=1))

    def test_p_never_changes_x(self):
        self.go_on("a[b+]", filled(a=1, b=5))
        self.go_on("a[a=a]", filled(a=1))
        self.go_on("a[a+a-]", filled(a=1))
        self.go_on("b+a[b+]", filled(a=1, b=5))

    def test_an_empty_p(self):
        self.end("a[]", filled(b=1), 1, filled(b=1))
        self.go_on("a[]", filled(a=1))
        self.go_on("a[]", filled(a=GREATEST))
        self.go_on("b+c=0a[]", filled(a=1, c=4))

    def test_x_is_looked_at_between_rounds_alone(self):
        self.end("a[a-a-b+]", filled(a=3), 9, filled(b=2))
        self.end("a[a-a=0b+a=c]", filled(a=3), 6, filled(b=1))

    def test_loops_within_loops(self):
        # Each of the 2 rounds of a: b's 4 looks and 3 rounds of 2, then 2.
        self.end("b=da[b[b-c+]b=da-]", filled(a=2, d=3), 1 + 3 + 2 * (4 + 6 + 2), filled(b=3, c=6, d=3))
        self.end("a[b[]a-]", filled(a=2), 3 + 2 * 2, filled())

    def test_both_kinds_in_one_another(self):
        self.end("a[b(c+)a-]", filled(a=2, b=3), 3 + 2 * (7 + 1), filled(b=3, c=6))
        self.end("a(b[b-c+]b=a)", filled(a=2, b=1), 1 + 2 * 2 + (2 + 2) + (3 + 4), filled(a=2, b=2, c=3))
        self.end("a(b[b-])", filled(a=3, b=2), 1 + 3 + 5 + 1 + 1, filled(a=3))

    def test_64_deep(self):
        # The inmost P takes x to 0, so each of the 64 loops has one round.
        self.end(nest([SQUARE] * 64, "x-"), filled(x=1), 129, filled())
        self.end(nest(mixed(64), "x-"), filled(x=1), 129, filled())
        self.end(nest([SQUARE] * 64, "x-"), filled(), 1, filled())
        self.go_on(nest([SQUARE] * 64), filled(x=1))


class Limit(RunTest):
    def test_0(self):
        before = filled(a=1, b=2)
        self.assertEqual(run(0, list(before), []), [0] + before)
        for text in ("a=0", "a=b", "a+", "a-", "a()", "a[]", "c()", "c[]", "a=a", "c-", "c(a+)", "c[a+]"):
            self.go_on(text, before, 0)

    def test_just_as_many(self):
        before = filled(a=2, b=1)
        for text, steps in (
            ("a+", 1),
            ("a+b+", 2),
            ("a()", 3),
            ("a(b+)", 5),
            ("a(b+)c=0", 6),
            ("a[a-]", 5),
            ("a[a-]b-", 6),
            ("a(b[b-])", 1 + 1 + 3 + 1 + 1),
        ):
            for limit in range(steps):
                self.go_on(text, before, limit)
            for limit in range(steps, steps + 3):
                self.assertEqual(run(limit, list(before), signs(text))[0], steps, text)

    def test_just_20000(self):
        self.end("a(b+)", filled(a=9999), 19999, filled(a=9999, b=9999))
        self.end("a(b+)c-", filled(a=9999), LONGEST, filled(a=9999, b=9999))
        self.go_on("a(b+)c-c-", filled(a=9999))
        self.end("a[a-]c+", filled(a=9999), LONGEST, filled(c=1))
        self.go_on("a[a-]", filled(a=10000))

    def test_for_ever(self):
        for text in ("a[]", "a[b+]", "a[b-]", "a[a=a]", "a[b(c+)]", "b(a[])", "b[a[]]", "a(a[a+])", "c[a()]a[]"):
            self.go_on(text, filled(a=3, b=2))

    def test_told_but_longer_than_anyone_waits(self):
        for text in ("a()", "a(b+)", "a(b())", "b(a())", "a(a-)", "a(a=0)", "a(c())", "b()c[]a()"):
            self.go_on(text, filled(a=GREATEST, b=1))
        self.go_on(nest([ROUND] * 64), [GREATEST] * 26)
        self.go_on(nest([ROUND] * 64), [2] * 26)

    def test_the_variables_as_they_were(self):
        before = list(range(1, 27))
        self.go_on("a=0b+c-d=ee=0z=a" + "y[x+w-]", before)
        self.go_on("a=0b+c-d=ee=0z=a", before, 5)


class Variables(RunTest):
    def test_each_letter_is_its_place(self):
        for k, letter in enumerate(LETTERS):
            before = list(range(10, 36))
            after = list(before)
            after[k] = before[k] + 1
            self.end(letter + "+", before, 1, after)
            after[k] = before[k] - 1
            self.end(letter + "-", before, 1, after)
            after[k] = 0
            self.end(letter + "=0", before, 1, after)
            self.end(letter + "()", before, 1 + before[k], before)
            self.end(letter + "[" + letter + "-]", before, 1 + 2 * before[k], after)

    def test_each_letter_to_each(self):
        before = list(range(10, 36))
        for i, x in enumerate(LETTERS):
            for k, y in enumerate(LETTERS):
                after = list(before)
                after[i] = before[k]
                self.end(x + "=" + y, before, 1, after)

    def test_the_first_and_the_last(self):
        self.end("a+", [0] * 26, 1, [1] + [0] * 25)
        self.end("z+", [0] * 26, 1, [0] * 25 + [1])

    def test_the_greatest(self):
        self.end("a+", filled(a=GREATEST), 1, filled(a=2**62))
        self.end("a+" * 200, filled(a=GREATEST), 200, filled(a=GREATEST + 200))
        self.end("a-", filled(a=GREATEST), 1, filled(a=GREATEST - 1))
        self.end("b=a", filled(a=GREATEST), 1, filled(a=GREATEST, b=GREATEST))
        self.end("a+a-", [GREATEST] * 26, 2, [GREATEST] * 26)
        self.end("b(a+)", filled(a=GREATEST, b=9999), 19999, filled(a=GREATEST + 9999, b=9999))

    def test_a_greatest_one_for_all(self):
        text = "".join(letter + "+" for letter in LETTERS)
        self.end(text, [GREATEST] * 26, 26, [2**62] * 26)


class TooMany(Exception):
    """More steps than the limit."""


class ByTheWords:
    """The document's words on statements and steps, one after another."""

    def __init__(self, limit, variables):
        self.limit = limit
        self.steps = 0
        self.variables = dict(zip(LETTERS, variables))

    def count(self):
        self.steps += 1
        if self.steps > self.limit:
            raise TooMany

    def program(self, statements):
        for x, sign, rest in statements:
            self.statement(x, sign, rest)

    def statement(self, x, sign, rest):
        self.count()
        if sign == "=":
            self.variables[x] = self.variables.get(rest, 0)
        elif sign == "+":
            self.variables[x] += 1
        elif sign == "-":
            self.variables[x] = max(self.variables[x] - 1, 0)
        elif sign == "(":
            for unused in range(self.variables[x]):
                self.count()
                self.program(rest)
        else:
            while self.variables[x] != 0:
                self.program(rest)
                self.count()


def run_by_the_words(limit, variables, text):
    machine = ByTheWords(limit, variables)
    try:
        machine.program(tree(text))
    except TooMany:
        return [-1] + variables
    return [machine.steps] + list(machine.variables.values())


class AgainstTheWords(unittest.TestCase):
    def compare(self, limit, before, text):
        self.assertEqual(run(limit, list(before), signs(text)), run_by_the_words(limit, before, text), (text, limit))

    def test_short_programs(self):
        for text in short_programs("ab", 8):
            for before in (filled(a=2, b=1), filled(a=1, b=3)):
                self.compare(30, before, text)

    def test_longer_programs_of_one_variable(self):
        for text in short_programs("a", 10):
            self.compare(50, filled(a=2), text)

    def test_each_limit(self):
        for text in ("a(b+)c[c-]", "a(b[b-]b=c)", "c[a(b+)c-]d(d-)", "a(a(a+))", "b(c(a+)c+)a[a-a-]", "a[b+]"):
            for limit in range(80):
                self.compare(limit, filled(a=3, b=2, c=2, d=1), text)

    def test_64_deep(self):
        for kinds in ([ROUND] * 64, [SQUARE] * 64, mixed(64)):
            for inner in ("", "x-", "x=0", "y+"):
                for start in range(3):
                    self.compare(3000, filled(x=start), nest(kinds, inner))

    def test_400_bytes(self):
        for text in ("a+" * 200, nest(mixed(64), "x-" + "q+" * 103), "a(b-" + "b+" * 195 + "c[c-])"):
            self.assertEqual(len(text), 400)
            self.compare(LONGEST, filled(a=40, c=2, x=1), text)


if __name__ == "__main__":
    unittest.main()
