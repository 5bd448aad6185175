"""Promise 7: ack."""

import unittest

from toldloops.loops import ack

BOUND = 2**62
GREATEST = 2**31 - 1


def ack_by_the_words(m, n):
    """A(m, n) by the three equations; waiting holds the m's of the calls around the inmost one."""
    waiting = [m]
    while waiting:
        m = waiting.pop()
        if m == 0:
            n = n + 1
        elif n == 0:
            waiting.append(m - 1)
            n = 1
        else:
            waiting.append(m - 1)
            waiting.append(m)
            n = n - 1
    return n


class Ack(unittest.TestCase):
    def give(self, m, n, answer):
        self.assertEqual(ack(m, n), [answer], (m, n))

    def test_m_0(self):
        self.give(0, 0, 1)
        self.give(0, 1, 2)
        self.give(0, 2, 3)
        self.give(0, GREATEST, 2**31)

    def test_m_1(self):
        self.give(1, 0, 2)
        self.give(1, 1, 3)
        self.give(1, 2, 4)
        self.give(1, GREATEST, 2**31 + 1)

    def test_m_2(self):
        self.give(2, 0, 3)
        self.give(2, 1, 5)
        self.give(2, 2, 7)
        self.give(2, GREATEST, 2**32 + 1)

    def test_m_3(self):
        self.give(3, 0, 5)
        self.give(3, 1, 13)
        self.give(3, 2, 29)
        self.give(3, 28, 2**31 - 3)
        self.give(3, 58, 2**61 - 3)
        self.give(3, 59, 2**62 - 3)
        self.give(3, 60, -1)
        self.give(3, 61, -1)
        self.give(3, 62, -1)
        self.give(3, 65533, -1)
        self.give(3, GREATEST, -1)

    def test_m_4(self):
        self.give(4, 0, 13)
        self.give(4, 1, 65533)
        self.give(4, 2, -1)
        self.give(4, 3, -1)
        self.give(4, GREATEST, -1)

    def test_m_5(self):
        self.give(5, 0, 65533)
        self.give(5, 1, -1)
        self.give(5, 2, -1)
        self.give(5, GREATEST, -1)

    def test_greater_m(self):
        for m in (6, 7, 8, 100, 65533, 2**30, GREATEST - 1, GREATEST):
            for n in (0, 1, 2, 3, 59, 60, GREATEST - 1, GREATEST):
                self.give(m, n, -1)

    def test_small_values_by_the_equations(self):
        for m, greatest in ((0, 40), (1, 40), (2, 40), (3, 6), (4, 0)):
            for n in range(greatest + 1):
                self.give(m, n, ack_by_the_words(m, n))


class Equations(unittest.TestCase):
    """The three equations among the answers themselves."""

    def test_the_first(self):
        for n in list(range(200)) + [GREATEST]:
            self.assertEqual(ack(0, n), [n + 1])

    def test_the_second(self):
        for m in list(range(200)) + [GREATEST - 1]:
            self.assertEqual(ack(m + 1, 0), ack(m, 1), m)

    def test_the_third(self):
        for m in range(10):
            for n in range(100):
                inner = ack(m + 1, n)[0]
                if inner == -1:
                    # A grows with n, so it's past the bound from there on.
                    expected = -1
                elif inner <= GREATEST:
                    expected = ack(m, inner)[0]
                else:
                    # Beyond what may be handed in only m = 2 is come to.
                    self.assertEqual(m, 2)
                    expected = 2 * inner + 3 if 2 * inner + 3 < BOUND else -1
                self.assertEqual(ack(m + 1, n + 1), [expected], (m, n))

    def test_the_third_at_the_greatest(self):
        for m in (0, 1):
            inner = ack(m + 1, GREATEST - 1)[0]
            # inner may be more than may be handed in; A(0, n) and A(1, n) are n + 1 and n + 2.
            self.assertEqual(ack(m + 1, GREATEST), [inner + m + 1])

    def test_below_the_bound_or_minus_1(self):
        for m in range(12):
            for n in range(130):
                answer = ack(m, n)[0]
                self.assertTrue(answer == -1 or 0 < answer < BOUND, (m, n))


if __name__ == "__main__":
    unittest.main()
