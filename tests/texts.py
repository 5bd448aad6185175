"""What the tests share: texts as lists of bytes, programs as trees, and a list that can't be changed."""

LETTERS = "abcdefghijklmnopqrstuvwxyz"
ROUND = "()"
SQUARE = "[]"


def signs(text):
    """The list of the text's bytes."""
    return list(text.encode("latin-1"))


def bits(letters):
    """The number with the bits of these variables, a's being the lowest."""
    return sum(1 << LETTERS.index(letter) for letter in set(letters))


def nest(kinds, inner=""):
    """Loops within one another, the outmost first in kinds, around inner."""
    front = "".join("x" + kind[0] for kind in kinds)
    back = "".join(kind[1] for kind in reversed(kinds))
    return front + inner + back


def mixed(many):
    """That many kinds of loop, both by turns."""
    return [ROUND if k % 2 == 0 else SQUARE for k in range(many)]


def squared(text):
    """The text with loops that go on in the place of those that say how often."""
    return text.replace("(", "[").replace(")", "]")


def programs(letters, longest):
    """By length, all texts of programs of these variables, built up by the grammar."""
    found = [[""]]
    for length in range(1, longest + 1):
        texts = []
        for first in range(2, length + 1):
            for statement in statements(letters, first, found):
                texts.extend(statement + rest for rest in found[length - first])
        found.append(texts)
    return found


def statements(letters, length, found):
    """All statements of that length; found has the shorter programs."""
    if length == 2:
        return [x + sign for x in letters for sign in "+-"]
    inner = [kind[0] + text + kind[1] for kind in (ROUND, SQUARE) for text in found[length - 3]]
    sets = ["=" + source for source in "0" + letters] if length == 3 else []
    return [x + rest for x in letters for rest in inner + sets]


def short_programs(letters, longest):
    """All texts of programs of these variables up to that length."""
    return [text for texts in programs(letters, longest) for text in texts]


def tree(text):
    """The program's statements, each a tuple of its letter, its sign, and what it sets x to or its P's statements."""
    rows = [[]]
    heads = []
    while text:
        if text[0] in ")]":
            inner = rows.pop()
            rows[-1].append((*heads.pop(), inner))
            text = text[1:]
        elif text[1] in "([":
            heads.append((text[0], text[1]))
            rows.append([])
            text = text[2:]
        else:
            size = 3 if text[1] == "=" else 2
            rows[-1].append((text[0], text[1], text[2:size]))
            text = text[size:]
    return rows[0]


def refuse(*arguments, **named):
    raise AssertionError("what was handed in is changed")


class Frozen(list):
    """A list that tells of a change even if it's undone later."""

    append = clear = extend = insert = pop = remove = reverse = sort = refuse
    __setitem__ = __delitem__ = __iadd__ = __imul__ = refuse
