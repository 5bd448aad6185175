"""What holds for every call: kinds, nothing changed, nothing kept, nothing printed."""

import contextlib
import inspect
import io
import unittest

from texts import ROUND, SQUARE, Frozen, mixed, nest, signs
from toldloops import loops

PROGRAMS = [
    "",
    "a=0",
    "a=b",
    "a+",
    "a-",
    "a(b+)",
    "a[b-]",
    "a(b[c(d[])])e+",
    nest([ROUND] * 64),
    nest([SQUARE] * 64),
    nest(mixed(64), "q-" * 104),
    "a+" * 200,
]
OTHER_TEXTS = ["a", "a=", "a(", "(", "a(]", "a+)", nest(mixed(65)), "\0\xff", "a(" * 200, "a+" * 199 + "b["]
CALLS = [(loops.check, PROGRAMS + OTHER_TEXTS), (loops.told, PROGRAMS)]


def each():
    """Each call with each of its texts."""
    return [(call, signs(text)) for call, texts in CALLS for text in texts]


class EveryCall(unittest.TestCase):
    def test_arguments(self):
        for call, unused in CALLS:
            self.assertEqual(list(inspect.signature(call).parameters), ["text"])
            self.assertEqual(call(text=signs("a+")), call(signs("a+")))

    def test_one_int_in_a_list(self):
        for call, text in each():
            answer = call(text)
            self.assertIs(type(answer), list)
            self.assertEqual([type(number) for number in answer], [int], (call, text))

    def test_text_is_the_same_afterwards(self):
        for call, text in each():
            before = list(text)
            call(text)
            self.assertEqual(text, before, call)

    def test_text_is_not_changed_for_a_while(self):
        for call, text in each():
            self.assertEqual(call(Frozen(text)), call(text), call)

    def test_nothing_is_kept(self):
        first = [call(text) for call, text in each()]
        second = [call(text) for call, text in each()]
        self.assertEqual(first, second)

    def test_an_answer_is_its_own_list(self):
        for call, text in each():
            answer = call(text)
            before = list(answer)
            answer.append(7)
            self.assertEqual(call(text), before, call)

    def test_nothing_is_printed(self):
        out, err = io.StringIO(), io.StringIO()
        with contextlib.redirect_stdout(out), contextlib.redirect_stderr(err):
            for call, text in each():
                call(text)
        self.assertEqual((out.getvalue(), err.getvalue()), ("", ""))


if __name__ == "__main__":
    unittest.main()
