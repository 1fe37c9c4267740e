"""Tests of sp_hammersley: point 5, and what the document says ahead of it."""

import itertools
import unittest

from checks import GREATEST_SIGNED, LEAST_SIGNED, EveryCall, RowCase
from spreadpoints.spread import sp_hammersley, sp_net

DIGIT_SIGNS = "0123456789abcdef"
GREATEST_SIZE = 65536

# Every b and m that are taken.
TAKEN = [(b, m) for b in range(2, 17) for m in range(1, 17) if b ** m <= GREATEST_SIZE]


def hammersley_by_the_words(b, m):
    """Point 5 word by word, over the written digits of each k."""
    answer = [b ** m]
    for row in itertools.product(DIGIT_SIGNS[:b], repeat=m):
        text = "".join(row)
        answer.append(int(text, b))
        answer.append(int(text[::-1], b))
    return answer


class HammersleyCase(RowCase):
    call = staticmethod(sp_hammersley)


class OrdinaryInputs(HammersleyCase):
    def test_one_digit(self):
        self.check_rows([
            (2, 1, [2, 0, 0, 1, 1]),
            (3, 1, [3, 0, 0, 1, 1, 2, 2]),
            (5, 1, [5, 0, 0, 1, 1, 2, 2, 3, 3, 4, 4]),
        ])

    def test_two_digits(self):
        self.check_rows([
            (2, 2, [4, 0, 0, 1, 2, 2, 1, 3, 3]),        # 00 10 01 11
            (3, 2, [9, 0, 0, 1, 3, 2, 6, 3, 1, 4, 4, 5, 7, 6, 2, 7, 5, 8, 8]),
            (4, 2, [
                16, 0, 0, 1, 4, 2, 8, 3, 12, 4, 1, 5, 5, 6, 9, 7, 13,
                8, 2, 9, 6, 10, 10, 11, 14, 12, 3, 13, 7, 14, 11, 15, 15,
            ]),
        ])

    def test_three_and_four_digits(self):
        self.check_rows([
            (2, 3, [8, 0, 0, 1, 4, 2, 2, 3, 6, 4, 1, 5, 5, 6, 3, 7, 7]),
            (2, 4, [
                16, 0, 0, 1, 8, 2, 4, 3, 12, 4, 2, 5, 10, 6, 6, 7, 14,
                8, 1, 9, 9, 10, 5, 11, 13, 12, 3, 13, 11, 14, 7, 15, 15,
            ]),
            (3, 3, [
                27, 0, 0, 1, 9, 2, 18, 3, 3, 4, 12, 5, 21, 6, 6, 7, 15, 8, 24,
                9, 1, 10, 10, 11, 19, 12, 4, 13, 13, 14, 22, 15, 7, 16, 16, 17, 25,
                18, 2, 19, 11, 20, 20, 21, 5, 22, 14, 23, 23, 24, 8, 25, 17, 26, 26,
            ]),
        ])

    def test_single_points(self):
        # A point (k, its turn) of a long answer, by b and m.
        for b, m, k, turn in (
            (10, 3, 7, 700), (10, 3, 120, 21), (10, 4, 1234, 4321), (10, 4, 90, 900), (7, 2, 8, 8), (12, 2, 11, 132),
        ):
            with self.subTest(b=b, m=m, k=k):
                answer = sp_hammersley(b, m)
                self.assertEqual(answer[1 + 2 * k:3 + 2 * k], [k, turn])

    def test_every_taken_base_and_count_of_digits(self):
        for b, m in TAKEN:
            # Not by assertEqual: it would write out the difference of two very long lists.
            self.assertTrue(sp_hammersley(b, m) == hammersley_by_the_words(b, m), (b, m))

    def test_the_points_are_a_net(self):
        for b, m in ((2, 1), (2, 10), (3, 6), (4, 5), (5, 4)):
            self.assertEqual(sp_net(b, m, 2, sp_hammersley(b, m)[1:]), [0], (b, m))


class Edges(HammersleyCase):
    def test_most_points(self):
        for b, m in ((2, 16), (4, 8), (16, 4)):
            with self.subTest(b=b, m=m):
                answer = sp_hammersley(b, m)
                self.assertEqual(len(answer), 131073)
                self.assertEqual(answer[0], GREATEST_SIZE)
                self.assertTrue(answer[1::2] == list(range(GREATEST_SIZE)))
                self.assertTrue(sorted(answer[2::2]) == list(range(GREATEST_SIZE)))
                self.assertTrue(answer == hammersley_by_the_words(b, m))

    def test_ends_of_the_longest_answers(self):
        for b, m, beginning, end in (
            (2, 16, [65536, 0, 0, 1, 32768, 2, 16384, 3, 49152], [65534, 32767, 65535, 65535]),
            (4, 8, [65536, 0, 0, 1, 16384, 2, 32768, 3, 49152], [65534, 49151, 65535, 65535]),
            (16, 4, [65536, 0, 0, 1, 4096, 2, 8192, 3, 12288], [65534, 61439, 65535, 65535]),
        ):
            with self.subTest(b=b, m=m):
                answer = sp_hammersley(b, m)
                self.assertEqual(answer[:9], beginning)
                self.assertEqual(answer[-4:], end)

    def test_greatest_base_with_one_digit(self):
        self.check_rows([(16, 1, [16] + [k // 2 for k in range(32)])])

    def test_greatest_count_of_digits_in_each_base(self):
        for b, m in ((2, 16), (3, 10), (4, 8), (5, 6), (6, 6), (7, 5), (9, 5), (10, 4), (15, 4), (16, 4)):
            with self.subTest(b=b, m=m):
                answer = sp_hammersley(b, m)
                self.assertEqual(answer[0], b ** m)
                self.assertEqual(len(answer), 1 + 2 * b ** m)


class WrongInputs(HammersleyCase):
    def test_base_out_of_range(self):
        for b in (1, 17, 0, -1, -2, LEAST_SIGNED, GREATEST_SIGNED):
            self.check_rows([(b, m, [-2]) for m in (1, 2, 16, 0, 17, LEAST_SIGNED, GREATEST_SIGNED)])

    def test_digits_out_of_range(self):
        for m in (0, 17, -1, LEAST_SIGNED, GREATEST_SIGNED):
            self.check_rows([(b, m, [-2]) for b in (2, 3, 10, 16)])

    def test_too_many_points(self):
        self.check_rows([
            (b, m, [-2]) for b in range(2, 17) for m in range(1, 17) if b ** m > GREATEST_SIZE
        ])
        # Told one by one: the first beyond the greatest size in some bases, and the greatest of all.
        self.check_rows([(3, 11, [-2]), (4, 9, [-2]), (7, 6, [-2]), (16, 5, [-2]), (3, 16, [-2]), (16, 16, [-2])])


class WhatIsGivenBack(EveryCall, HammersleyCase):
    names = ("b", "m")
    inputs = ((2, 3), (10, 2), (2, 1), (16, 2), (2, 8), (1, 3), (2, 0), (16, 5))


if __name__ == "__main__":
    unittest.main()
