"""Tests of sp_star: point 2, and what the document says ahead of it."""

import itertools
import unittest

from checks import GREATEST, GREATEST_COUNT, GREATEST_Q, EveryCall, LineRefusals, RowCase
from spreadpoints.spread import sp_star


def star_by_the_words(n, q, a):
    """Point 2 word by word: slow, and so for short rows."""
    differences = []
    for y in a + [q]:
        below = len([point for point in a if point < y])
        no_greater = len([point for point in a if point <= y])
        differences.append(abs(q * below - n * y))
        differences.append(abs(q * no_greater - n * y))
    return [0, max(differences)]


class StarCase(RowCase):
    call = staticmethod(sp_star)


class OrdinaryInputs(StarCase):
    def test_points_in_order(self):
        self.check_rows([
            (2, 10, [2, 7], [0, 6]),            # y = 2: 4 and 6; y = 7: 4 and 6
            (2, 10, [1, 9], [0, 8]),            # y = 1: 2 and 8; y = 9: 8 and 2
            (3, 10, [1, 4, 8], [0, 8]),         # y = 1: 3 and 7; y = 4: 2 and 8; y = 8: 4 and 6
            (4, 8, [1, 3, 5, 7], [0, 4]),       # each y: 4 and 4
            (4, 100, [10, 20, 30, 40], [0, 240]),   # y = 40: 300 - 160 and 400 - 160
            (3, 7, [4, 5, 6], [0, 12]),         # y = 4: 0 - 12 and 7 - 12
        ])

    def test_points_not_in_order(self):
        self.check_rows([
            (2, 10, [7, 2], [0, 6]),
            (3, 10, [8, 1, 4], [0, 8]),
            (4, 8, [5, 1, 7, 3], [0, 4]),
            (4, 100, [30, 10, 40, 20], [0, 240]),
            (3, 7, [6, 4, 5], [0, 12]),
        ])

    def test_the_same_point_more_than_once(self):
        self.check_rows([
            (2, 10, [5, 5], [0, 10]),           # y = 5: 0 - 10 and 20 - 10
            (3, 10, [2, 2, 9], [0, 14]),        # y = 2: 0 - 6 and 20 - 6; y = 9: 20 - 27 and 30 - 27
            (3, 10, [2, 9, 2], [0, 14]),
            (3, 10, [9, 9, 2], [0, 17]),        # y = 2: 0 - 6 and 10 - 6; y = 9: 10 - 27 and 30 - 27
            (3, 9, [4, 4, 4], [0, 15]),         # y = 4: 0 - 12 and 27 - 12
            (4, 6, [5, 1, 5, 1], [0, 8]),       # y = 1: 0 - 4 and 12 - 4; y = 5: 12 - 20 and 24 - 20
        ])

    def test_nought_among_the_points(self):
        self.check_rows([
            (2, 10, [0, 5], [0, 10]),           # y = 0: 0 and 10; y = 5: 0 and 10
            (2, 10, [8, 0], [0, 10]),           # y = 0: 0 and 10; y = 8: 10 - 16 and 20 - 16
            (3, 10, [0, 0, 6], [0, 20]),        # y = 0: 0 and 20
            (3, 10, [9, 9, 0], [0, 17]),        # y = 9: 10 - 27
            (3, 10, [0, 0, 0], [0, 30]),
        ])

    def test_either_difference_may_be_the_greatest(self):
        self.check_rows([
            (1, 10, [7], [0, 7]),               # 0 - 7 and 10 - 7
            (1, 10, [3], [0, 7]),               # 0 - 3 and 10 - 3
        ])

    def test_every_short_row(self):
        for n, q in itertools.product(range(1, 5), range(1, 7)):
            for row in itertools.product(range(q), repeat=n):
                a = list(row)
                self.assertEqual(sp_star(n, q, a), star_by_the_words(n, q, a), (n, q, a))

    def test_a_longer_row(self):
        for n, q, step in ((200, 1009, 617), (150, 97, 31), (97, 64, 24)):
            a = [k * k * step % q for k in range(n)]
            self.assertEqual(sp_star(n, q, a), star_by_the_words(n, q, a), (n, q))


class Edges(StarCase):
    def test_one_point(self):
        self.check_rows([
            (1, 1, [0], [0, 1]),
            (1, 2, [0], [0, 2]),
            (1, 2, [1], [0, 1]),
            (1, GREATEST_Q, [0], [0, GREATEST_Q]),
            (1, GREATEST_Q, [GREATEST_Q - 1], [0, GREATEST_Q - 1]),
            (1, GREATEST_Q, [1073741823], [0, 1073741824]),
        ])

    def test_most_points(self):
        count = GREATEST_COUNT
        self.check_rows([
            (count, 1, [0] * count, [0, count]),
            (count, count, list(range(count)), [0, count]),
            (count, count, list(reversed(range(count))), [0, count]),
            (count, 2 * count, list(range(1, 2 * count, 2)), [0, count]),
            (count, GREATEST_Q, [0] * count, [0, count * GREATEST_Q]),
            (count, GREATEST_Q, [GREATEST_Q - 1] * count, [0, count * (GREATEST_Q - 1)]),
        ])

    def test_least_q(self):
        self.check_rows([(n, 1, [0] * n, [0, n]) for n in (1, 2, 3, 100)])

    def test_point_just_below_q(self):
        self.check_rows([
            (1, 10, [9], [0, 9]),
            (2, 10, [9, 9], [0, 18]),
            (2, 10, [0, 9], [0, 10]),           # y = 0: 0 and 10; y = 9: 10 - 18 and 20 - 18
            (2, GREATEST_Q, [GREATEST_Q - 1, 0], [0, GREATEST_Q]),
        ])


class WrongInputs(LineRefusals, StarCase):
    """As for every row of points on a line."""


class WhatIsGivenBack(EveryCall, StarCase):
    names = ("n", "q", "a")
    inputs = (
        (3, 10, [8, 1, 4]), (4, 6, [5, 1, 5, 1]), (1, 1, [0]), (GREATEST_COUNT, 2, [1, 0] * 2048),
        (0, 10, []), (3, 0, []), (3, 10, [8, 10, 4]), (2, 5, [GREATEST, 0]),
    )


if __name__ == "__main__":
    unittest.main()
