"""The calls on texts and programs; a text is the list of its bytes."""

FIRST_LETTER = 97
LAST_LETTER = 122
ZERO = 48
EQUALS = 61
PLUS = 43
MINUS = 45
ROUND_OPENING = 40
ROUND_CLOSING = 41
SQUARE_OPENING = 91
SQUARE_CLOSING = 93

# The sign that closes a loop, by the sign that opens it.
CLOSING_SIGNS = {40: 41, 91: 93}

DEEPEST = 64

# Where one stands in a text that has been read so far.
AT_START = 0
BEHIND_LETTER = 1
BEHIND_EQUALS = 2
NOWHERE = 3


def is_letter(sign):
    """Whether the sign is a variable."""
    return FIRST_LETTER <= sign <= LAST_LETTER


def from_start(sign, awaited):
    """Where the sign leads from a statement's start, where a loop may end too."""
    if is_letter(sign):
        return BEHIND_LETTER
    if len(awaited) > 0 and sign == awaited[-1]:
        awaited.pop()
        return AT_START
    return NOWHERE


def from_letter(sign, awaited):
    """Where the sign leads from behind a statement's first letter."""
    if sign == EQUALS:
        return BEHIND_EQUALS
    if sign == PLUS or sign == MINUS:
        return AT_START
    if sign in CLOSING_SIGNS and len(awaited) < DEEPEST:
        awaited.append(CLOSING_SIGNS[sign])
        return AT_START
    return NOWHERE


def from_equals(sign):
    """Where the sign leads from behind an equals sign."""
    if sign == ZERO or is_letter(sign):
        return AT_START
    return NOWHERE


def step(place, sign, awaited):
    """Where the sign leads from the place.

    awaited holds the closing signs of the loops that are open, the inmost
    loop's last, and is kept up to date.
    """
    if place == BEHIND_LETTER:
        return from_letter(sign, awaited)
    if place == BEHIND_EQUALS:
        return from_equals(sign)
    return from_start(sign, awaited)


def check(text):
    """-1 for a program's text, else how many of its bytes may begin one."""
    place = AT_START
    awaited = []
    for k, sign in enumerate(text):
        place = step(place, sign, awaited)
        if place == NOWHERE:
            return [k]
    if place == AT_START and len(awaited) == 0:
        return [-1]
    # Any statement can be finished and any loop closed, so all bytes count.
    return [len(text)]


def told(text):
    """1 if the program has no loop x[P], else 0."""
    # In a program's text this sign stands nowhere but at such a loop.
    if SQUARE_OPENING in text:
        return [0]
    return [1]


def opens(sign):
    """Whether the sign opens a loop of either kind."""
    return sign in CLOSING_SIGNS


def closes(sign):
    """Whether the sign closes a loop of either kind."""
    return sign == ROUND_CLOSING or sign == SQUARE_CLOSING


def depth(text):
    """How deep the program's loops lie in one another."""
    around = 0
    deepest = 0
    for sign in text:
        if opens(sign):
            around = around + 1
            deepest = max(deepest, around)
        elif closes(sign):
            around = around - 1
    return [deepest]


def partners(text):
    """By the place of each sign that opens or closes a loop, the place of its partner."""
    found = {}
    unclosed = []
    for k, sign in enumerate(text):
        if opens(sign):
            unclosed.append(k)
        elif closes(sign):
            start = unclosed.pop()
            found[start] = k
            found[k] = start
    return found


def variable(letter):
    """Which of the 26 variables the letter stands for, a being the 0th."""
    return letter - FIRST_LETTER


def do_small(now, text, k):
    """Do the statement x=0, x=y, x+ or x- at k to the variables; answer the place behind it."""
    x = variable(text[k])
    sign = text[k + 1]
    if sign == PLUS:
        now[x] = now[x] + 1
        return k + 2
    if sign == MINUS:
        now[x] = max(now[x] - 1, 0)
        return k + 2
    source = text[k + 2]
    if source == ZERO:
        now[x] = 0
    else:
        now[x] = now[variable(source)]
    return k + 3


def do_step(now, left, other, text, k):
    """Do the step of the statement that begins at k; answer the place where it goes on.

    now holds the variables, left how many rounds are left of each open loop
    x(P), the inmost loop's last, and other what partners(text) answers.
    """
    sign = text[k + 1]
    if sign == ROUND_OPENING:
        left.append(now[variable(text[k])])
        # Its end is where it's asked whether a round is left, for the first one too.
        return other[k + 1]
    if sign == SQUARE_OPENING:
        if now[variable(text[k])] == 0:
            return other[k + 1] + 1
        return k + 2
    return do_small(now, text, k)


def run(limit, the_vars, text):
    """How many steps the program takes and the variables behind it, or -1 and those before it."""
    now = list(the_vars)
    left = []
    other = partners(text)
    steps = 0
    k = 0
    while k < len(text) and steps <= limit:
        if text[k] == SQUARE_CLOSING:
            # Back to the loop's letter, where its variable is looked at once more.
            k = other[k] - 1
        elif text[k] == ROUND_CLOSING and left[-1] == 0:
            left.pop()
            k = k + 1
        elif text[k] == ROUND_CLOSING:
            left[-1] = left[-1] - 1
            steps = steps + 1
            k = other[k] + 1
        else:
            steps = steps + 1
            k = do_step(now, left, other, text, k)
    if steps > limit:
        return [-1] + list(the_vars)
    return [steps] + now


def bit(letter):
    """The number with the bit of the letter's variable alone."""
    return 1 << variable(letter)


def marks_small(sign):
    """Whether the sign is one of those that each statement but a loop has once, behind its first letter."""
    return sign == EQUALS or sign == PLUS or sign == MINUS


def changes(text):
    """The bits of the variables that stand first in a statement other than a loop."""
    changed = 0
    for k, sign in enumerate(text):
        if marks_small(sign):
            changed = changed | bit(text[k - 1])
    return [changed]


def before_set(needed, letter, source):
    """What's needed before a statement that sets the letter's variable to source, with needed behind it."""
    x = bit(letter)
    if needed & x == 0:
        return needed
    if source == ZERO:
        return needed ^ x
    return (needed ^ x) | bit(source)


def needs(after, text):
    """The bits of the variables that are needed before the program, for those in after behind it."""
    other = partners(text)
    # What each loop is known to need, by its opening sign. It only grows: whenever a loop is
    # come to again, at least as much is needed behind it as the last time.
    known = {}
    needed = after
    k = len(text) - 1
    while k >= 0:
        sign = text[k]
        if closes(sign):
            start = other[k]
            known[start] = known.get(start, bit(text[start - 1])) | needed
            needed = known[start]
            k = k - 1
        elif opens(sign) and (needed | known[k]) == known[k]:
            needed = known[k]
            k = k - 2
        elif opens(sign):
            # P needs more than was known: once more from its end, with that too.
            k = other[k]
        elif sign == PLUS or sign == MINUS:
            k = k - 2
        else:
            needed = before_set(needed, text[k - 2], sign)
            k = k - 3
    return [needed]


def loop_level(inner, behind):
    """The level of a loop and the statements that follow, from P's level and theirs."""
    m = max(inner + 1, 2)
    return max(m + 2, behind) + 2


def level(text):
    """The program's level."""
    reached = 0
    # The levels of what follows the loops one is in, the inmost loop's last.
    behind = []
    for sign in reversed(text):
        if marks_small(sign):
            reached = reached + 2
        elif closes(sign):
            behind.append(reached)
            reached = 0
        elif opens(sign):
            reached = loop_level(reached, behind.pop())
    return [reached]


def ack(m, n):
    """Ackermann's A(m, n) if it's below 2^62, else -1."""
    if m == 0:
        return [n + 1]
    if m == 1:
        return [n + 2]
    if m == 2:
        return [2 * n + 3]
    # A(3, n) is 2^(n + 3) - 3, which is below 2^62 up to n = 59.
    if m == 3 and n <= 59:
        return [(1 << (n + 3)) - 3]
    # A(4, 0) is A(3, 1), A(4, 1) is A(3, 13), and A(5, 0) is A(4, 1). The next ones are
    # A(3, 65533) or more, and so are all with a greater m.
    if m == 4 and n == 0:
        return [13]
    if (m == 4 and n == 1) or (m == 5 and n == 0):
        return [65533]
    return [-1]
