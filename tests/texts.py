"""What the tests share: texts as lists of bytes, and a list that can't be changed."""

ROUND = "()"
SQUARE = "[]"


def signs(text):
    """The list of the text's bytes."""
    return list(text.encode("latin-1"))


def nest(kinds, inner=""):
    """Loops within one another, the outmost first in kinds, around inner."""
    front = "".join("x" + kind[0] for kind in kinds)
    back = "".join(kind[1] for kind in reversed(kinds))
    return front + inner + back


def mixed(many):
    """That many kinds of loop, both by turns."""
    return [ROUND if k % 2 == 0 else SQUARE for k in range(many)]


def refuse(*arguments, **named):
    raise AssertionError("what was handed in is changed")


class Frozen(list):
    """A list that tells of a change even if it's undone later."""

    append = clear = extend = insert = pop = remove = reverse = sort = refuse
    __setitem__ = __delitem__ = __iadd__ = __imul__ = refuse
