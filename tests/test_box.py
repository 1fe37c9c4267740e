"""Tests of sp_box: point 6, and what the document says ahead of it."""

import itertools
import unittest

from checks import GREATEST, GREATEST_SIGNED, LEAST_SIGNED, EveryCall, RowCase
from spreadpoints.spread import sp_box

MOST_HANDED_IN = 15000


class BoxCase(RowCase):
    call = staticmethod(sp_box)


class OrdinaryInputs(BoxCase):
    def test_one_point(self):
        self.check_rows([
            (1, 5, 7, [4, 6], [1]),         # inside
            (1, 5, 7, [0, 0], [1]),
            (1, 5, 7, [6, 6], [0]),         # outside by the first alone
            (1, 5, 7, [4, 8], [0]),         # outside by the second alone
            (1, 5, 7, [6, 8], [0]),         # outside by both
            (1, 5, 7, [6, 4], [0]),         # inside, if the two changed places
        ])

    def test_number_that_is_the_bound_is_not_below_it(self):
        self.check_rows([
            (1, 5, 7, [5, 6], [0]),
            (1, 5, 7, [4, 7], [0]),
            (1, 5, 7, [5, 7], [0]),
            (2, 5, 5, [5, 4, 4, 5], [0]),
            (3, 5, 5, [5, 4, 4, 4, 4, 5], [1]),
        ])

    def test_several_points(self):
        self.check_rows([
            (4, 5, 7, [1, 1, 9, 1, 1, 9, 9, 9], [1]),
            (4, 2, 3, [0, 0, 1, 2, 2, 1, 3, 3], [2]),
            (4, 3, 2, [0, 0, 1, 2, 2, 1, 3, 3], [2]),
            (4, 4, 4, [0, 0, 1, 2, 2, 1, 3, 3], [4]),
            (4, 4, 1, [0, 0, 1, 2, 2, 1, 3, 3], [1]),
            (5, 10, 20, [9, 19, 10, 19, 9, 20, 3, 15, 15, 3], [2]),
            (3, 5, 7, [9, 9, 9, 9, 1, 1], [1]),     # the last alone
        ])

    def test_the_same_point_more_than_once(self):
        self.check_rows([
            (3, 5, 7, [1, 2, 1, 2, 1, 2], [3]),
            (3, 5, 7, [1, 2, 5, 2, 1, 2], [2]),
        ])

    def test_every_pair_of_points_in_a_small_square(self):
        for x, y, row in itertools.product(range(4), range(4), itertools.product(range(3), repeat=4)):
            inside = [point for point in (row[:2], row[2:]) if point[0] < x and point[1] < y]
            self.assertEqual(sp_box(2, x, y, list(row)), [len(inside)], (x, y, row))


class Edges(BoxCase):
    def test_no_point(self):
        self.check_rows([(0, x, y, [], [0]) for x in (0, 1, GREATEST) for y in (0, 1, GREATEST)])

    def test_most_points(self):
        n = MOST_HANDED_IN
        along = [number for k in range(n) for number in (k, n - 1 - k)]
        self.check_rows([
            (n, 1, 1, [0] * (2 * n), [n]),
            (n, 1, 1, [1] * (2 * n), [0]),
            (n, 1, 1, [1] * (2 * n - 2) + [0, 0], [1]),
            (n, n, n, along, [n]),
            (n, 10000, n, along, [10000]),
            (n, n, 10000, along, [10000]),
            (n, 10000, 10000, along, [5000]),   # k from 5000 to 9999
            (n, 7500, 7500, along, [0]),
        ])

    def test_greatest_count(self):
        self.check_rows([(65536, 1, 1, [0] * 131072, [65536])])

    def test_empty_box(self):
        for l in ([0, 0], [0, 5], [GREATEST, GREATEST]):
            self.check_rows([(1, 0, GREATEST, l, [0]), (1, GREATEST, 0, l, [0]), (1, 0, 0, l, [0])])

    def test_greatest_box(self):
        self.check_rows([
            (1, GREATEST, GREATEST, [0, 0], [1]),
            (1, GREATEST, GREATEST, [GREATEST - 1, GREATEST - 1], [1]),
            (1, GREATEST, GREATEST, [GREATEST, 0], [0]),
            (1, GREATEST, GREATEST, [0, GREATEST], [0]),
            (1, GREATEST, GREATEST, [GREATEST, GREATEST], [0]),
            (2, GREATEST, GREATEST, [GREATEST, GREATEST, 2147483648, 2147483648], [1]),
        ])

    def test_least_box(self):
        self.check_rows([
            (1, 1, 1, [0, 0], [1]),
            (1, 1, 1, [1, 0], [0]),
            (1, 1, 1, [0, 1], [0]),
            (1, 1, GREATEST, [0, GREATEST - 1], [1]),
            (1, GREATEST, 1, [GREATEST - 1, 0], [1]),
        ])


class WrongInputs(BoxCase):
    def test_count_out_of_range(self):
        for n in (-1, 65537, LEAST_SIGNED, GREATEST_SIGNED):
            self.check_rows([(n, x, y, [], [-2]) for x in (0, 5, GREATEST) for y in (0, 5, GREATEST)])


class WhatIsGivenBack(EveryCall, BoxCase):
    names = ("n", "x", "y", "l")
    inputs = (
        (4, 2, 3, [0, 0, 1, 2, 2, 1, 3, 3]), (3, 5, 7, [9, 9, 9, 9, 1, 1]), (0, 5, 7, []), (1, 0, 0, [0, 0]),
        (MOST_HANDED_IN, GREATEST, GREATEST, [GREATEST, 0, 0, 0] * 7500), (-1, 5, 7, []), (65537, 5, 7, []),
    )


if __name__ == "__main__":
    unittest.main()
