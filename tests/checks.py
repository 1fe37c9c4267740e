"""What the tests of all functions share."""

import contextlib
import copy
import io
import unittest

GREATEST = 4294967295
LEAST_SIGNED = -2147483648
GREATEST_SIGNED = 2147483647

# Of the points on a line.
GREATEST_COUNT = 4096
GREATEST_Q = 2147483647


def barred(*given, **named):
    raise AssertionError("a list that was handed in is changed")


class WatchedList(list):
    """A list that can't be changed: so not for a while either."""

    append = extend = insert = pop = remove = clear = sort = reverse = barred
    __setitem__ = __delitem__ = __iadd__ = __imul__ = barred


def watched(given):
    return [WatchedList(value) if isinstance(value, list) else value for value in given]


def told(given):
    """The arguments of a call, of a long list only the head."""
    return [value[:20] if isinstance(value, list) else value for value in given]


class RowCase(unittest.TestCase):
    """Rows of a call's arguments and then its answer; call is set by the class of the tests."""

    def check_rows(self, rows):
        for row in rows:
            given = row[:-1]
            with self.subTest(given=told(given)):
                self.assertEqual(self.call(*given), row[-1])


class EveryCall:
    """Tests that hold for every function; call, names and inputs are set by the class that adds TestCase."""

    def check_each(self, check):
        for given in self.inputs:
            with self.subTest(given=told(given)):
                check(copy.deepcopy(given))

    def check_kinds(self, given):
        answer = self.call(*given)
        self.assertIs(type(answer), list)
        self.assertEqual({type(number) for number in answer}, {int})

    def check_given_stays(self, given):
        kept = copy.deepcopy(given)
        answer = self.call(*given)
        self.assertEqual(given, kept)
        self.assertEqual(self.call(*watched(given)), answer)

    def check_second_call(self, given):
        first = self.call(*given)
        kept = list(first)
        second = self.call(*given)
        self.assertEqual(second, kept)
        for value in (first, *given):
            self.assertIsNot(second, value)
        first.append(7)
        first[0] = 99
        self.assertEqual(second, kept)
        self.assertEqual(self.call(*given), kept)

    def check_names(self, given):
        named = dict(reversed(list(zip(self.names, given, strict=True))))
        self.assertEqual(self.call(**named), self.call(*given))

    def test_a_list_of_whole_numbers(self):
        self.check_each(self.check_kinds)

    def test_what_is_handed_in_stays_as_it_was(self):
        self.check_each(self.check_given_stays)

    def test_second_call_gives_the_same_in_a_new_list(self):
        self.check_each(self.check_second_call)

    def test_arguments_by_name(self):
        self.check_each(self.check_names)

    def test_calls_between_change_nothing(self):
        alone = [self.call(*given) for given in self.inputs]
        backwards = [self.call(*given) for given in reversed(self.inputs)]
        self.assertEqual(backwards[::-1], alone)

    def test_nothing_is_printed(self):
        printed = io.StringIO()
        with contextlib.redirect_stdout(printed), contextlib.redirect_stderr(printed):
            for given in self.inputs:
                self.call(*given)
        self.assertEqual(printed.getvalue(), "")


class LineRefusals:
    """Refusals of n points a / q, the same for both functions that take them; RowCase stands beside it."""

    def test_count_out_of_range(self):
        for n in (0, -1, GREATEST_COUNT + 1, LEAST_SIGNED, GREATEST_SIGNED):
            self.check_rows([(n, q, [], [-2]) for q in (1, 10, GREATEST_Q, 0, -1, LEAST_SIGNED)])

    def test_q_out_of_range(self):
        for q in (0, -1, LEAST_SIGNED, GREATEST_Q + 1):
            self.check_rows([(n, q, [], [-2]) for n in (1, 3, GREATEST_COUNT)])

    def test_point_not_below_q(self):
        for q in (1, 10, GREATEST_Q):
            for wrong in (q, q + 1, GREATEST):
                self.check_rows([
                    (1, q, [wrong], [-3]),
                    (3, q, [wrong, 0, q - 1], [-3]),
                    (3, q, [0, wrong, q - 1], [-3]),
                    (3, q, [0, q - 1, wrong], [-3]),
                    (2, q, [wrong, wrong], [-3]),
                    (GREATEST_COUNT, q, [0] * (GREATEST_COUNT - 1) + [wrong], [-3]),
                ])
