"""Promise 1: check."""

import itertools
import unittest

from texts import LETTERS, ROUND, SQUARE, mixed, nest, short_programs, signs
from toldloops.loops import check


class Programs(unittest.TestCase):
    def accept(self, text):
        self.assertEqual(check(signs(text)), [-1], text)

    def test_empty(self):
        self.assertEqual(check([]), [-1])

    def test_bytes_as_the_document_lists_them(self):
        self.assertEqual(check([97, 61, 48]), [-1])
        self.assertEqual(check([97, 61, 122]), [-1])
        self.assertEqual(check([122, 43]), [-1])
        self.assertEqual(check([122, 45]), [-1])
        self.assertEqual(check([109, 40, 41]), [-1])
        self.assertEqual(check([109, 91, 93]), [-1])

    def test_each_statement_with_each_variable(self):
        for x in LETTERS:
            for rest in ("=0", "+", "-", "()", "[]", "(a+)", "[a-]"):
                self.accept(x + rest)
            for y in LETTERS:
                self.accept(x + "=" + y)

    def test_rows(self):
        self.accept("a+a+b-c=0d=c")
        self.accept("a=ba=aa=0a+")
        self.accept("a()b[]c()d[]")
        self.accept("a(b+)c=0d[d-]e+")

    def test_loops_within_loops(self):
        self.accept("a(b[c(d[])])")
        self.accept("a[b(c-d=0)e[f=g]h()]i+")
        self.accept("a(a(a+)a(a-))a[a[]a[]]")

    def test_64_deep(self):
        for kinds in ([ROUND] * 64, [SQUARE] * 64, mixed(64)):
            self.accept(nest(kinds))
            self.accept(nest(kinds, "y=0z+"))
            self.accept(nest(kinds) + nest(kinds))

    def test_many_loops_that_are_not_deep(self):
        self.accept("a()" * 130)
        self.accept("b(" + "a[]" * 130 + ")")

    def test_loops_reach_64_again_after_some_are_closed(self):
        self.accept(nest(mixed(63), "a()b[]c(d+)"))

    def test_400_bytes(self):
        for text in ("a+" * 200, "a=b" * 132 + "z+z-", nest(mixed(64), "q-" * 104)):
            self.assertEqual(len(text), 400)
            self.accept(text)


class OtherTexts(unittest.TestCase):
    def reach(self, text, k):
        self.assertEqual(check(signs(text)), [k], text)

    def reach_all(self, text):
        self.reach(text, len(text))

    def test_broken_off_in_a_statement(self):
        for text in ("a", "a=", "z", "a+b", "a+b=", "a=0b=", "a=bc", "a()b", "a[]b="):
            self.reach_all(text)

    def test_broken_off_in_a_loop(self):
        for text in ("a(", "a[", "a(b", "a(b=", "a(b+", "a[b=0", "a(b[]", "a(b[c-]", "a[b(", "a+b(c=d"):
            self.reach_all(text)

    def test_broken_off_64_deep(self):
        for kinds in ([ROUND] * 64, [SQUARE] * 64, mixed(64)):
            for cut in range(1, 192):
                self.reach_all(nest(kinds)[:cut])

    def test_broken_off_at_400_bytes(self):
        for text in ("a(" + "b+" * 199, "a=0" + "b-" * 198 + "c", "a+" * 199 + "b=", "a+" * 199 + "b["):
            self.assertEqual(len(text), 400)
            self.reach_all(text)

    def test_first_byte_is_wrong(self):
        for text in ("0", "=", "+", "-", "(", ")", "[", "]", " ", "A", "1", "=a", ")a+", "(a)", "\n", " a+"):
            self.reach(text, 0)

    def test_wrong_byte_behind_a_letter(self):
        self.reach("aa", 1)
        self.reach("ab+", 1)
        self.reach("a0", 1)
        self.reach("a)", 1)
        self.reach("a]", 1)
        self.reach("a =0", 1)
        self.reach("a+bc=0", 3)
        self.reach("a(b)", 3)
        self.reach("a[b]", 3)

    def test_wrong_byte_behind_an_equals_sign(self):
        self.reach("a=1", 2)
        self.reach("a==", 2)
        self.reach("a=+", 2)
        self.reach("a=(", 2)
        self.reach("a=A", 2)
        self.reach("b+a= 0", 4)
        self.reach("c(a=)", 4)
        self.reach("c[a=]", 4)

    def test_wrong_byte_at_a_statements_start(self):
        self.reach("a++", 2)
        self.reach("a--", 2)
        self.reach("a=00", 3)
        self.reach("a=b=0", 3)
        self.reach("a=b+", 3)
        self.reach("a+ b+", 2)
        self.reach("a+;b+", 2)
        self.reach("a+\n", 2)
        self.reach("a()+", 3)
        self.reach("a[]()", 3)

    def test_wrong_byte_in_a_loop(self):
        self.reach("a((", 2)
        self.reach("a(0)", 2)
        self.reach("a( )", 2)
        self.reach("a[+]", 2)
        self.reach("a(b+ )", 4)
        self.reach("a(b[c+.])", 6)

    def test_closing_sign_of_the_other_kind(self):
        self.reach("a(]", 2)
        self.reach("a[)", 2)
        self.reach("a(b+]", 4)
        self.reach("a(b[)]", 4)
        self.reach("a[b(])", 4)
        self.reach("a(b[c+])d(e[])]", 14)
        self.reach("a(b[]]", 5)
        self.reach("a[b()c())", 8)

    def test_closing_sign_without_a_loop(self):
        self.reach("a+)", 2)
        self.reach("a+]", 2)
        self.reach("a())", 3)
        self.reach("a[]]", 3)
        self.reach("a(b[])]c+", 6)
        self.reach("a(b[]))c+", 6)

    def test_65_deep(self):
        for kinds in ([ROUND] * 65, [SQUARE] * 65, mixed(65)):
            self.reach(nest(kinds), 129)
            self.reach(nest(kinds)[:130], 129)
            self.reach_all(nest(kinds)[:129])
            self.reach("a+" + nest(kinds), 131)
        for more in (ROUND, SQUARE):
            self.reach(nest(mixed(64), "a+y" + more), 131)
            self.reach(nest(mixed(63), "a()b[]c(d" + more + ")"), 126 + 9)

    def test_66_deep_and_deeper(self):
        for depth in (66, 100, 133):
            self.reach(nest(mixed(depth)), 129)

    def test_last_of_400_bytes_is_wrong(self):
        self.reach("a+" * 199 + "aa", 399)
        self.reach("a=0" + "b-" * 198 + ")", 399)

    def test_only_the_first_wrong_byte_counts(self):
        self.reach("a+?b+?", 2)
        self.reach("?" * 400, 0)

    def test_no_sign_at_all(self):
        for wrong in (0, 1, 32, 96, 123, 127, 128, 225, 254, 255):
            self.assertEqual(check([wrong]), [0])
            self.assertEqual(check([97, wrong]), [1])
            self.assertEqual(check([97, 61, wrong]), [2])
            self.assertEqual(check([97, 43, wrong, 97, 43]), [2])
            self.assertEqual(check([97, 40, wrong, 41]), [2])
            self.assertEqual(check([97, 91, 97, 43, wrong, 93]), [4])


class EveryByte(unittest.TestCase):
    """Each of the 256 bytes in each place: which may stand there."""

    def allow(self, before, allowed):
        front = signs(before)
        for byte in range(256):
            answer = check(front + [byte])[0]
            if byte in signs(allowed):
                self.assertIn(answer, (-1, len(front) + 1), (before, byte))
            else:
                self.assertEqual(answer, len(front), (before, byte))

    def test_each_place(self):
        self.allow("", LETTERS)
        self.allow("a+", LETTERS)
        self.allow("a=0", LETTERS)
        self.allow("a()", LETTERS)
        self.allow("a", "=+-([")
        self.allow("a(b", "=+-([")
        self.allow("a=", LETTERS + "0")
        self.allow("a(", LETTERS + ")")
        self.allow("a[", LETTERS + "]")
        self.allow("a[b(c+", LETTERS + ")")
        self.allow("a[b(c+)", LETTERS + "]")
        self.allow("x(" * 63 + "x", "=+-([")
        self.allow("x(" * 64 + "x", "=+-")


class ByTheWords(unittest.TestCase):
    """All short texts against the promise's own words."""

    def test_short_texts(self):
        longest = 5
        # A text of 5 bytes opens 2 loops at the most and lacks one more byte
        # behind a letter, so programs of 8 bytes show all that may begin one.
        whole = set(short_programs("a", 8))
        begins = {text[:k] for text in whole for k in range(longest + 1)}
        for length in range(longest + 1):
            for row in itertools.product("a0=+-()[]", repeat=length):
                text = "".join(row)
                if text in whole:
                    expected = -1
                else:
                    expected = max(k for k in range(length + 1) if text[:k] in begins)
                self.assertEqual(check(signs(text)), [expected], text)


if __name__ == "__main__":
    unittest.main()
