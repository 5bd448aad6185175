"""The calls on texts and programs; a text is the list of its bytes."""

FIRST_LETTER = 97
LAST_LETTER = 122
ZERO = 48
EQUALS = 61
PLUS = 43
MINUS = 45
SQUARE_OPENING = 91

# The sign that closes a loop, by the sign that opens it.
CLOSING_SIGNS = {40: 41, 91: 93}

DEEPEST = 64

# Where one stands in a text that has been read so far.
AT_START = 0
BEHIND_LETTER = 1
BEHIND_EQUALS = 2
NOWHERE = 3


def is_letter(sign):
    """Whether the sign is a variable."""
    return FIRST_LETTER <= sign <= LAST_LETTER


def from_start(sign, awaited):
    """Where the sign leads from a statement's start, where a loop may end too."""
    if is_letter(sign):
        return BEHIND_LETTER
    if len(awaited) > 0 and sign == awaited[-1]:
        awaited.pop()
        return AT_START
    return NOWHERE


def from_letter(sign, awaited):
    """Where the sign leads from behind a statement's first letter."""
    if sign == EQUALS:
        return BEHIND_EQUALS
    if sign == PLUS or sign == MINUS:
        return AT_START
    if sign in CLOSING_SIGNS and len(awaited) < DEEPEST:
        awaited.append(CLOSING_SIGNS[sign])
        return AT_START
    return NOWHERE


def from_equals(sign):
    """Where the sign leads from behind an equals sign."""
    if sign == ZERO or is_letter(sign):
        return AT_START
    return NOWHERE


def step(place, sign, awaited):
    """Where the sign leads from the place.

    awaited holds the closing signs of the loops that are open, the inmost
    loop's last, and is kept up to date.
    """
    if place == BEHIND_LETTER:
        return from_letter(sign, awaited)
    if place == BEHIND_EQUALS:
        return from_equals(sign)
    return from_start(sign, awaited)


def check(text):
    """-1 for a program's text, else how many of its bytes may begin one."""
    place = AT_START
    awaited = []
    for k, sign in enumerate(text):
        place = step(place, sign, awaited)
        if place == NOWHERE:
            return [k]
    if place == AT_START and len(awaited) == 0:
        return [-1]
    # Any statement can be finished and any loop closed, so all bytes count.
    return [len(text)]


def told(text):
    """1 if the program has no loop x[P], else 0."""
    # In a program's text this sign stands nowhere but at such a loop.
    if SQUARE_OPENING in text:
        return [0]
    return [1]
