"""What holds for every call: kinds, nothing changed, nothing kept, nothing printed."""

import contextlib
import inspect
import io
import sys
import unittest

from texts import ROUND, SQUARE, Frozen, mixed, nest, signs
from toldloops import loops

PROGRAMS = [
    "",
    "a=0",
    "a=b",
    "a+",
    "a-",
    "a(b+)",
    "a[b-]",
    "a(b[c(d[])])e+",
    nest([ROUND] * 64),
    nest([SQUARE] * 64),
    nest(mixed(64), "q-" * 104),
    "a+" * 200,
]
OTHER_TEXTS = ["a", "a=", "a(", "(", "a(]", "a+)", nest(mixed(65)), "\0\xff", "a(" * 200, "a+" * 199 + "b["]
FEW_LOOPS = PROGRAMS[:8] + [nest([ROUND] * 8), nest([SQUARE] * 8), nest(mixed(8), "x=q" * 125), "a+" * 200]
STARTS = [[0] * 26, list(range(26)), [2**62 - 1] * 26]
LIMITS = [0, 1, 20000]
NUMBERS = [0, 1, 2, 3, 4, 5, 6, 59, 60, 2**31 - 1]
AFTERS = [0, 1, 2**25, 2**26 - 1]


def one_text(texts):
    """What is handed in to a call of a text alone."""
    return [[signs(text)] for text in texts]


# By the call's name: its arguments' names, how many numbers it tells, and what is handed in.
CALLS = {
    "check": (["text"], 1, one_text(PROGRAMS + OTHER_TEXTS)),
    "told": (["text"], 1, one_text(PROGRAMS)),
    "depth": (["text"], 1, one_text(PROGRAMS)),
    "run": (
        ["limit", "the_vars", "text"],
        27,
        [[limit, start, signs(text)] for limit in LIMITS for start in STARTS for text in PROGRAMS],
    ),
    "changes": (["text"], 1, one_text(PROGRAMS)),
    "needs": (["after", "text"], 1, [[after, signs(text)] for after in AFTERS for text in FEW_LOOPS]),
    "level": (["text"], 1, one_text(PROGRAMS)),
    "ack": (["m", "n"], 1, [[m, n] for m in NUMBERS for n in NUMBERS]),
}


def each():
    """Each call with all that's handed in to it, in lists of its own."""
    return [(getattr(loops, name), copied(given)) for name, row in CALLS.items() for given in row[2]]


def copied(given):
    return [list(value) if isinstance(value, list) else value for value in given]


def frozen(given):
    return [Frozen(value) if isinstance(value, list) else value for value in given]


class EveryCall(unittest.TestCase):
    def test_the_eight_calls(self):
        self.assertEqual(list(CALLS), ["check", "told", "depth", "run", "changes", "needs", "level", "ack"])

    def test_arguments(self):
        for name, (names, unused, rows) in CALLS.items():
            call = getattr(loops, name)
            self.assertEqual(list(inspect.signature(call).parameters), names)
            self.assertEqual(call(**dict(zip(names, rows[0]))), call(*rows[0]))

    def test_so_many_ints_in_a_list(self):
        for name, (unused, many, rows) in CALLS.items():
            for given in rows:
                answer = getattr(loops, name)(*given)
                self.assertIs(type(answer), list)
                self.assertEqual([type(number) for number in answer], [int] * many, (name, given))

    def test_what_is_handed_in_is_the_same_afterwards(self):
        for call, given in each():
            before = copied(given)
            call(*given)
            self.assertEqual(given, before, call)

    def test_what_is_handed_in_is_not_changed_for_a_while(self):
        for call, given in each():
            self.assertEqual(call(*frozen(given)), call(*given), call)

    def test_nothing_is_kept(self):
        first = [call(*given) for call, given in each()]
        again = [call(*given) for call, given in reversed(each())]
        self.assertEqual(first, list(reversed(again)))

    def test_the_module_stays_as_it_is(self):
        before = {name: repr(value) for name, value in vars(loops).items()}
        for call, given in each():
            call(*given)
        self.assertEqual({name: repr(value) for name, value in vars(loops).items()}, before)

    def test_texts_are_gone_through_by_loops(self):
        rows = each()
        before = sys.getrecursionlimit()
        sys.setrecursionlimit(len(inspect.stack()) + 20)
        try:
            for call, given in rows:
                call(*given)
        finally:
            sys.setrecursionlimit(before)

    def test_an_answer_is_its_own_list(self):
        for call, given in each():
            answer = call(*given)
            before = list(answer)
            for value in given:
                self.assertIsNot(answer, value)
            answer.append(7)
            self.assertEqual(call(*given), before, call)

    def test_nothing_is_printed(self):
        out, err = io.StringIO(), io.StringIO()
        with contextlib.redirect_stdout(out), contextlib.redirect_stderr(err):
            for call, given in each():
                call(*given)
        self.assertEqual((out.getvalue(), err.getvalue()), ("", ""))


if __name__ == "__main__":
    unittest.main()
