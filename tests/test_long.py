"""Tests of sp_long: point 3, and what the document says ahead of it."""

import itertools
import unittest

from checks import GREATEST, GREATEST_COUNT, GREATEST_Q, EveryCall, LineRefusals, RowCase
from spreadpoints.spread import sp_long

# Of numbers below 52: as long as any row stays well.
SEVENTEEN = [0, 28, 44, 14, 37, 22, 48, 7, 32, 18, 40, 11, 25, 49, 4, 34, 19]


def is_well(q, a, j):
    for first in range(j):
        for second in range(first):
            if j * a[first] // q == j * a[second] // q:
                return False
    return True


def long_by_the_words(n, q, a):
    """Point 3 word by word: slow, and so for short rows."""
    well = [k for k in range(n + 1) if all(is_well(q, a, j) for j in range(1, k + 1))]
    return [max(well)]


class LongCase(RowCase):
    call = staticmethod(sp_long)


class OrdinaryInputs(LongCase):
    def test_wrong_at_the_second(self):
        self.check_rows([
            (2, 4, [0, 1], [1]),                    # halves 0 0
            (2, 4, [3, 2], [1]),                    # halves 1 1
            (4, 12, [0, 5, 8, 11], [1]),            # halves 0 0
            (3, 5, [2, 0, 4], [1]),                 # halves 0 0, as 2 2 / 5 is below 1
        ])

    def test_wrong_in_the_middle(self):
        self.check_rows([
            (5, 12, [0, 6, 3, 9, 11], [2]),         # thirds 0 1 0
            (6, 12, [0, 8, 4, 3, 9, 11], [3]),      # quarters 0 2 1 1
            (7, 12, [0, 8, 4, 9, 11, 2, 6], [4]),   # fifths 0 3 1 3 4
        ])

    def test_wrong_at_the_last(self):
        self.check_rows([
            (3, 12, [0, 8, 3], [2]),                # thirds 0 2 0
            (4, 12, [0, 8, 4, 3], [3]),             # quarters 0 2 1 1
            (5, 12, [0, 8, 4, 9, 2], [4]),          # fifths 0 3 1 3 0
        ])

    def test_none_goes_wrong(self):
        self.check_rows([
            (2, 4, [0, 2], [2]),                    # halves 0 1
            (2, 5, [3, 2], [2]),                    # halves 1 0
            (3, 12, [0, 8, 4], [3]),                # halves 0 1; thirds 0 2 1
            (4, 12, [0, 8, 4, 9], [4]),             # quarters 0 2 1 3
        ])

    def test_wrong_though_well_again_later(self):
        self.check_rows([
            (3, 12, [0, 4, 8], [1]),                # halves 0 0; thirds 0 1 2
            (4, 12, [0, 6, 3, 9], [2]),             # thirds 0 1 0; quarters 0 2 1 3
            (4, 12, [3, 0, 6, 9], [1]),             # halves 0 0; quarters 1 0 2 3
        ])

    def test_all_that_are_there_are_cut_anew(self):
        # The new point has a part to itself; two of those before it fall together.
        self.check_rows([(5, 12, [0, 8, 4, 9, 5], [4])])    # fifths 0 3 1 3 2

    def test_the_same_point_twice(self):
        self.check_rows([
            (2, 12, [5, 5], [1]),
            (3, 12, [0, 8, 8], [2]),
            (3, 12, [0, 8, 0], [2]),
            (4, 12, [0, 8, 4, 4], [3]),
            (5, 12, [0, 8, 4, 9, 0], [4]),
        ])

    def test_every_short_row(self):
        for n, q in list(itertools.product(range(1, 5), range(1, 8))) + [(5, 6)]:
            for row in itertools.product(range(q), repeat=n):
                a = list(row)
                self.assertEqual(sp_long(n, q, a), long_by_the_words(n, q, a), (n, q, a))


class Seventeen(LongCase):
    def test_every_beginning_is_well(self):
        self.check_rows([(k, 52, SEVENTEEN[:k], [k]) for k in range(1, 18)])

    def test_a_point_more_behind_it(self):
        self.check_rows([(18, 52, SEVENTEEN + [point], [17]) for point in range(52)])

    def test_many_points_more_behind_it(self):
        rest = [k * 31 % 52 for k in range(GREATEST_COUNT - 17)]
        self.check_rows([(GREATEST_COUNT, 52, SEVENTEEN + rest, [17])])

    def test_with_the_greatest_q(self):
        # Rounded up, so that no point falls below where its part begins.
        row = [-(-point * GREATEST_Q // 52) for point in SEVENTEEN]
        self.check_rows([
            (17, GREATEST_Q, row, [17]),
            (18, GREATEST_Q, row + [GREATEST_Q - 1], [17]),
        ])


class Edges(LongCase):
    def test_one_point_is_alone(self):
        self.check_rows([
            (1, 1, [0], [1]),
            (1, 12, [0], [1]),
            (1, 12, [11], [1]),
            (1, GREATEST_Q, [GREATEST_Q - 1], [1]),
        ])

    def test_most_points(self):
        count = GREATEST_COUNT
        self.check_rows([
            (count, 1, [0] * count, [1]),
            (count, count, list(range(count)), [1]),
            (count, count, [0, count // 2] + [1] * (count - 2), [2]),
            (count, GREATEST_Q, [0, GREATEST_Q - 1] * (count // 2), [2]),
        ])

    def test_least_q(self):
        self.check_rows([(n, 1, [0] * n, [1]) for n in (1, 2, 3, 100)])

    def test_greatest_q(self):
        self.check_rows([
            (2, GREATEST_Q, [1073741823, 1073741824], [2]),     # the middle lies between
            (2, GREATEST_Q, [1073741822, 1073741823], [1]),
            (2, GREATEST_Q, [1073741824, 1073741825], [1]),
        ])

    def test_point_just_below_q(self):
        self.check_rows([
            (2, 2, [0, 1], [2]),
            (2, 12, [11, 0], [2]),
            (3, 12, [11, 0, 4], [3]),
            (2, 12, [10, 11], [1]),
            (2, GREATEST_Q, [GREATEST_Q - 1, 0], [2]),
        ])


class WrongInputs(LineRefusals, LongCase):
    def test_point_not_below_q_behind_the_place_that_goes_wrong(self):
        for wrong in (52, 53, GREATEST):
            self.check_rows([
                (3, 52, [0, 1, wrong], [-3]),
                (5, 52, [0, 0, 0, wrong, 0], [-3]),
                (19, 52, SEVENTEEN + [0, wrong], [-3]),
                (GREATEST_COUNT, 52, [0] * (GREATEST_COUNT - 1) + [wrong], [-3]),
            ])


class WhatIsGivenBack(EveryCall, LongCase):
    names = ("n", "q", "a")
    inputs = (
        (4, 12, [0, 8, 4, 9]), (3, 12, [0, 4, 8]), (18, 52, SEVENTEEN + [9]), (1, 1, [0]),
        (GREATEST_COUNT, 2, [1, 0] * 2048), (0, 10, []), (3, 0, []), (3, 10, [8, 10, 4]), (2, 5, [GREATEST, 0]),
    )


if __name__ == "__main__":
    unittest.main()
