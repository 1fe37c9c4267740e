"""Tests of sp_net: point 4, and what the document says ahead of it."""

import collections
import itertools
import unittest

from checks import GREATEST, GREATEST_SIGNED, LEAST_SIGNED, EveryCall, RowCase
from spreadpoints.spread import sp_net

# Every b and m that are taken, with b to the m.
SIZES = [(b, m, b ** m) for b in range(2, 6) for m in range(1, 11) if b ** m <= 1024]


def turned(b, m, k):
    """The m digits of k to the base b, the other way about."""
    number = 0
    for place in range(m):
        number = number * b + k // b ** place % b
    return number


def flat(points):
    return [number for point in points for number in point]


def diagonal(size, s):
    return flat([k] * s for k in range(size))


def turned_net(b, m):
    return flat((k, turned(b, m, k)) for k in range(b ** m))


def is_net_by_the_words(b, m, s, points, t):
    for cuts in itertools.product(range(m + 1), repeat=s):
        if sum(cuts) == m - t:
            boxes = [tuple(number // b ** (m - d) for number, d in zip(point, cuts)) for point in points]
            if set(collections.Counter(boxes).values()) != {b ** t}:
                return False
    return True


def net_by_the_words(b, m, s, l):
    """Point 4 word by word: slow, and so for few points."""
    points = [l[k:k + s] for k in range(0, len(l), s)]
    return [min(t for t in range(m + 1) if is_net_by_the_words(b, m, s, points, t))]


class NetCase(RowCase):
    call = staticmethod(sp_net)

    def check_by_the_words(self, b, m, s, l):
        self.assertEqual(sp_net(b, m, s, l), net_by_the_words(b, m, s, l), (b, m, s, l))


class OrdinaryInputs(NetCase):
    def test_one_number_a_point(self):
        self.check_rows([
            (2, 1, 1, [1, 0], [0]),
            (2, 1, 1, [1, 1], [1]),
            (2, 2, 1, [3, 0, 2, 1], [0]),
            (2, 2, 1, [0, 0, 3, 3], [1]),                   # two in each half
            (2, 2, 1, [0, 1, 1, 3], [2]),                   # three in the first half
            (2, 3, 1, [0, 0, 2, 2, 4, 4, 6, 6], [1]),       # two in each quarter
            (2, 3, 1, [0, 1, 1, 3, 5, 4, 7, 6], [2]),       # three in the first quarter, four in each half
            (2, 3, 1, [0, 1, 1, 3, 3, 4, 7, 6], [3]),       # five in the first half
            (3, 1, 1, [2, 0, 1], [0]),
            (3, 1, 1, [2, 2, 1], [1]),
            (3, 2, 1, [8, 8, 8, 0, 0, 0, 4, 4, 4], [1]),    # three in each third
            (5, 1, 1, [4, 2, 0, 1, 3], [0]),
        ])

    def test_two_numbers_a_point(self):
        self.check_rows([
            (2, 1, 2, [0, 1, 1, 0], [0]),
            (2, 1, 2, [0, 1, 0, 0], [1]),
            (2, 2, 2, [0, 0, 1, 2, 2, 1, 3, 3], [0]),       # halves 00 01 10 11
            (2, 2, 2, [0, 0, 1, 1, 2, 2, 3, 3], [1]),       # halves 00 00 11 11
            (2, 2, 2, [0, 0, 1, 1, 2, 0, 3, 1], [2]),       # the second's halves 0 0 0 0
            # The first two of the three digits change places: quarters of the first with halves of the second
            # hold two or none, but halves with halves two each.
            (2, 3, 2, [0, 0, 1, 1, 2, 4, 3, 5, 4, 2, 5, 3, 6, 6, 7, 7], [1]),
            (2, 3, 2, diagonal(8, 2), [2]),                 # halves with halves hold four or none
            (3, 1, 2, [0, 2, 1, 0, 2, 1], [0]),
            (3, 1, 2, [0, 2, 1, 0, 2, 2], [1]),
            (3, 2, 2, diagonal(9, 2), [1]),                 # thirds with thirds hold three or none
        ])

    def test_three_numbers_a_point(self):
        self.check_rows([
            (2, 1, 3, [0, 1, 0, 1, 0, 1], [0]),
            (2, 1, 3, [0, 1, 0, 1, 1, 1], [1]),
            (2, 2, 3, [0, 0, 0, 1, 2, 2, 2, 1, 3, 3, 3, 1], [0]),   # halves 000 011 101 110
            (2, 2, 3, [0, 0, 0, 1, 2, 1, 2, 1, 3, 3, 3, 2], [1]),   # halves 000 010 101 111
            (2, 2, 3, [0, 0, 0, 1, 2, 1, 2, 1, 1, 3, 3, 2], [2]),   # the third's halves 0 0 0 1
            (5, 1, 3, diagonal(5, 3), [0]),
        ])

    def test_four_numbers_a_point(self):
        self.check_rows([
            (2, 1, 4, diagonal(2, 4), [0]),
            (2, 2, 4, [0, 0, 0, 0, 1, 2, 2, 1, 2, 1, 3, 3, 3, 3, 1, 2], [1]),   # halves 0000 0110 1011 1101
            # Thirds c, e, c + e and c + 2 e, for c and e from 0 to 2: any two tell both c and e.
            (3, 2, 4, [
                0, 0, 0, 0, 1, 3, 3, 6, 2, 6, 6, 3, 3, 1, 4, 4, 4, 4, 7, 1, 5, 7, 1, 7, 6, 2, 8, 8, 7, 5, 2, 5, 8, 8, 5, 2,
            ], [0]),
            # Two thirds of the fourth changed: (1, 3, 3) has 3 and (2, 6, 6) has 6, the same as their third number.
            (3, 2, 4, [
                0, 0, 0, 0, 1, 3, 3, 3, 2, 6, 6, 6, 3, 1, 4, 4, 4, 4, 7, 1, 5, 7, 1, 7, 6, 2, 8, 8, 7, 5, 2, 5, 8, 8, 5, 2,
            ], [1]),
            (3, 2, 4, diagonal(9, 4), [1]),
            (4, 1, 4, [3, 0, 1, 2, 0, 1, 2, 3, 1, 2, 3, 0, 2, 3, 0, 1], [0]),
        ])

    def test_digits_the_other_way_about(self):
        self.check_rows([(b, m, 2, turned_net(b, m), [0]) for b, m, size in SIZES])

    def test_all_points_the_same(self):
        for b, m, size in SIZES:
            self.check_rows([(b, m, s, [size - 1] * (size * s), [m]) for s in range(1, 5)])

    def test_one_number_the_same_for_all(self):
        for b, m, size in SIZES:
            self.check_rows([
                (b, m, 2, flat((k, 0) for k in range(size)), [m]),
                (b, m, 2, flat((size - 1, k) for k in range(size)), [m]),
                (b, m, 3, flat((k, 1, turned(b, m, k)) for k in range(size)), [m]),
                (b, m, 4, flat((k, k, k, 0) for k in range(size)), [m]),
            ])

    def test_diagonals(self):
        for b, m, size in SIZES:
            self.check_rows([(b, m, s, diagonal(size, s), [m - 1]) for s in (2, 3, 4)])

    def test_repeats_along_the_line(self):
        # Each number with its last t digits made noughts.
        for b, m, size in SIZES:
            for t in range(m + 1):
                row = [k - k % b ** t for k in range(size)]
                self.check_rows([(b, m, 1, row, [t]), (b, m, 1, row[::-1], [t])])


class ByTheWords(NetCase):
    def test_every_small_net(self):
        for b, m, s in ((2, 1, 1), (2, 1, 2), (2, 1, 3), (2, 1, 4), (2, 2, 1), (3, 1, 1), (3, 1, 2), (4, 1, 1)):
            for row in itertools.product(range(b ** m), repeat=b ** m * s):
                self.check_by_the_words(b, m, s, list(row))

    def test_every_second_number_beside_two_first_ones(self):
        for first in ((0, 1, 2, 3), (0, 0, 2, 3)):
            for second in itertools.product(range(4), repeat=4):
                self.check_by_the_words(2, 2, 2, flat(zip(first, second)))

    def test_orders_of_the_second_number(self):
        for order in itertools.islice(itertools.permutations(range(8)), 0, None, 101):
            self.check_by_the_words(2, 3, 2, flat(enumerate(order)))
        for order in itertools.islice(itertools.permutations(range(9)), 0, None, 1009):
            self.check_by_the_words(3, 2, 2, flat(enumerate(order)))

    def test_digits_mixed(self):
        # Digits of each number taken from k's in another order give every answer in between.
        answers = []
        for b, m, s in ((2, 4, 2), (2, 4, 3), (2, 5, 4), (3, 3, 2), (3, 3, 3)):
            orders = list(itertools.permutations(range(m)))
            for shift in range(0, len(orders), 1 + len(orders) // 24):
                rows = [orders[shift * side % len(orders)] for side in range(s)]
                points = [[sum(k // b ** place % b * b ** e for e, place in enumerate(row)) for row in rows]
                          for k in range(b ** m)]
                self.check_by_the_words(b, m, s, flat(points))
                answers.append(sp_net(b, m, s, flat(points))[0])
        self.assertEqual(sorted(set(answers)), [0, 1, 2, 3, 4])


class Edges(NetCase):
    def test_most_points_and_most_numbers(self):
        order = list(range(1024))
        self.check_rows([
            (2, 10, 1, order[::-1], [0]),
            (2, 10, 1, order[:-1] + [0], [10]),
            (2, 10, 4, diagonal(1024, 4), [9]),
            (2, 10, 4, [1023] * 4096, [10]),
            (4, 5, 1, order[::-1], [0]),
            (4, 5, 4, diagonal(1024, 4), [4]),
            (4, 5, 4, [1023] * 4096, [5]),
        ])

    def test_most_points_with_an_answer_in_between(self):
        # The second number has the first's digits as they are but for the first two, which change places.
        points = [(k, k % 256 + k // 512 * 256 + k // 256 % 2 * 512) for k in range(1024)]
        self.check_rows([(2, 10, 2, flat(points), [8])])    # halves with halves hold 256 each
        four = [(k, turned(2, 10, k), k ^ k // 2, turned(2, 10, k ^ k // 2)) for k in range(1024)]
        self.check_rows([(2, 10, 4, flat(four), net_by_the_words(2, 10, 4, flat(four)))])

    def test_least_of_each(self):
        self.check_rows([(2, 1, 1, [0, 1], [0]), (2, 1, 1, [0, 0], [1])])

    def test_greatest_base(self):
        self.check_rows([
            (5, 1, 4, diagonal(5, 4), [0]),
            (5, 1, 4, [4] * 20, [1]),
            (5, 4, 2, turned_net(5, 4), [0]),
            (5, 4, 4, diagonal(625, 4), [3]),
        ])

    def test_numbers_just_below_b_to_the_m(self):
        for b, m, size in SIZES:
            self.check_rows([
                (b, m, 1, list(range(size)), [0]),
                (b, m, 2, flat((size - 1 - k, size - 1 - turned(b, m, k)) for k in range(size)), [0]),
            ])


class WrongInputs(NetCase):
    def test_base_out_of_range(self):
        for b in (1, 6, 0, -1, -2, LEAST_SIGNED, GREATEST_SIGNED):
            self.check_rows([(b, m, s, [], [-2]) for m in (1, 3, 10) for s in (1, 4)])

    def test_digits_out_of_range(self):
        for m in (0, 11, -1, LEAST_SIGNED, GREATEST_SIGNED):
            self.check_rows([(b, m, s, [], [-2]) for b in (2, 3, 5) for s in (1, 4)])

    def test_numbers_a_point_out_of_range(self):
        for s in (0, 5, -1, LEAST_SIGNED, GREATEST_SIGNED):
            self.check_rows([(b, m, s, [], [-2]) for b, m in ((2, 1), (2, 10), (5, 4))])

    def test_several_out_of_range(self):
        self.check_rows([
            (LEAST_SIGNED, LEAST_SIGNED, LEAST_SIGNED, [], [-2]),
            (GREATEST_SIGNED, GREATEST_SIGNED, GREATEST_SIGNED, [], [-2]),
            (1, 11, 1, [], [-2]),
            (2, 0, 5, [], [-2]),
        ])

    def test_too_many_points(self):
        for b, m in ((3, 7), (4, 6), (5, 5), (3, 10), (4, 10), (5, 10)):
            self.check_rows([(b, m, s, [], [-2]) for s in (1, 2, 3, 4)])

    def test_number_not_below_b_to_the_m(self):
        for b, m, s in ((2, 1, 1), (2, 3, 2), (3, 2, 3), (5, 1, 4), (4, 5, 4), (2, 10, 4)):
            size = b ** m
            for wrong in (size, size + 1, GREATEST):
                for place in (0, size * s // 2, size * s - 1):
                    l = diagonal(size, s)
                    l[place] = wrong
                    self.check_rows([(b, m, s, l, [-3])])


class WhatIsGivenBack(EveryCall, NetCase):
    names = ("b", "m", "s", "l")
    inputs = (
        (2, 2, 2, [0, 0, 1, 2, 2, 1, 3, 3]), (2, 2, 3, [0, 0, 0, 1, 2, 1, 2, 1, 3, 3, 3, 2]), (2, 1, 1, [1, 1]),
        (2, 10, 4, diagonal(1024, 4)), (1, 2, 2, []), (2, 2, 5, []), (5, 5, 1, []),
        (2, 1, 2, [0, 1, 2, 0]), (2, 1, 1, [GREATEST, 0]),
    )


if __name__ == "__main__":
    unittest.main()
