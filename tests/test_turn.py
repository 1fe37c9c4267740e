"""Tests of sp_turn: point 1, and what the document says ahead of it."""

import itertools
import unittest

from checks import GREATEST, EveryCall, RowCase
from spreadpoints.spread import sp_turn

BASES = range(2, 17)
DIGIT_SIGNS = "0123456789abcdef"


class TurnCase(RowCase):
    call = staticmethod(sp_turn)


class OrdinaryInputs(TurnCase):
    def test_worked_out_by_hand(self):
        self.check_rows([
            (2, 5, [3, 5]),         # 101 -> 101
            (2, 11, [4, 13]),       # 1011 -> 1101
            (2, 19, [5, 25]),       # 10011 -> 11001
            (3, 5, [2, 7]),         # 12 -> 21
            (3, 14, [3, 22]),       # 112 -> 211
            (3, 16, [3, 16]),       # 121 -> 121
            (5, 38, [3, 86]),       # 123 -> 321
            (7, 51, [3, 99]),       # 102 -> 201
            (8, 83, [3, 209]),      # 123 -> 321
            (10, 123, [3, 321]),
            (10, 90817, [5, 71809]),
            (12, 23, [2, 133]),     # 1b -> b1
            (15, 29, [2, 211]),     # 1e -> e1
            (16, 31, [2, 241]),     # 1f -> f1
            (16, 2748, [3, 3258]),  # abc -> cba
        ])

    def test_noughts_at_the_end_stand_in_front(self):
        self.check_rows([
            (2, 2, [2, 1]),         # 10 -> 01
            (2, 6, [3, 3]),         # 110 -> 011
            (2, 8, [4, 1]),         # 1000 -> 0001
            (3, 18, [3, 2]),        # 200 -> 002
            (7, 98, [3, 2]),        # 200 -> 002
            (10, 1200, [4, 21]),    # 1200 -> 0021
            (10, 1020, [4, 201]),   # 1020 -> 0201
            (16, 160, [2, 10]),     # a0 -> 0a
            (16, 61440, [4, 15]),   # f000 -> 000f
        ])

    def test_one_digit_is_its_own_turn(self):
        for b in BASES:
            self.check_rows([(b, n, [1, n]) for n in range(1, b)])

    def test_powers_of_the_base_and_one_less(self):
        for b in BASES:
            power = b
            digits = 1
            while power <= GREATEST:
                self.check_rows([
                    (b, power - 1, [digits, power - 1]),
                    (b, power, [digits + 1, 1]),
                ])
                power = power * b
                digits = digits + 1

    def test_every_row_of_up_to_three_digits(self):
        for b in BASES:
            for length in (1, 2, 3):
                for row in itertools.product(DIGIT_SIGNS[:b], repeat=length):
                    if row[0] != "0":
                        text = "".join(row)
                        answer = [length, int(text[::-1], b)]
                        self.assertEqual(sp_turn(b, int(text, b)), answer, (b, text))


class Edges(TurnCase):
    def test_nought_has_no_digits(self):
        self.check_rows([(b, 0, [0, 0]) for b in BASES])

    def test_greatest_number(self):
        self.check_rows([
            (2, GREATEST, [32, GREATEST]),
            (4, GREATEST, [16, GREATEST]),
            (16, GREATEST, [8, GREATEST]),
            (8, GREATEST, [11, int("77777777773", 8)]),     # 37777777777
            (10, GREATEST, [10, 5927694924]),
        ])

    def test_near_the_greatest_number(self):
        self.check_rows([
            (2, 4294967294, [32, 2147483647]),
            (2, 2147483648, [32, 1]),
            (2, 2147483647, [31, 2147483647]),
            (10, 4294967290, [10, 927694924]),
            (10, 4000000000, [10, 4]),
            (16, 4294967280, [8, 268435455]),               # fffffff0 -> 0fffffff
        ])

    def test_least_and_greatest_base_are_taken(self):
        self.check_rows([
            (2, 13, [4, 11]),                               # 1101 -> 1011
            (16, 4660, [4, 17185]),                         # 1234 -> 4321
        ])


class WrongInputs(TurnCase):
    def test_base_out_of_range(self):
        for b in (1, 17, 0, -1, -2, -16, -2147483648, 2147483647):
            self.check_rows([(b, n, [-2]) for n in (0, 1, 2, 10, 2147483648, GREATEST)])

    def test_number_out_of_range(self):
        for b in (2, 10, 16):
            self.check_rows([(b, n, [-2]) for n in (-1, -2147483648, GREATEST + 1)])


class WhatIsGivenBack(EveryCall, TurnCase):
    names = ("b", "n")
    # Ordinary, edge and refused inputs alike.
    inputs = ((10, 1200), (2, 0), (16, GREATEST), (1, 5), (17, 0))


if __name__ == "__main__":
    unittest.main()
