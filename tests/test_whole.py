"""Tests over all functions: what the document says of every call."""

import copy
import inspect
import itertools
import pathlib
import subprocess
import sys
import unittest

from checks import GREATEST, GREATEST_SIGNED, LEAST_SIGNED, watched
from spreadpoints import spread

TOP = pathlib.Path(spread.__file__).resolve().parent.parent

ARGUMENTS = {
    "sp_turn": ["b", "n"],
    "sp_star": ["n", "q", "a"],
    "sp_long": ["n", "q", "a"],
    "sp_net": ["b", "m", "s", "l"],
    "sp_hammersley": ["b", "m"],
    "sp_box": ["n", "x", "y", "l"],
}

# A call's function, arguments and answer, refusals among them.
CALLS = (
    ("sp_turn", (10, 1200), [4, 21]),
    ("sp_turn", (2, 0), [0, 0]),
    ("sp_turn", (17, 5), [-2]),
    ("sp_turn", (LEAST_SIGNED, GREATEST), [-2]),
    ("sp_star", (3, 10, [8, 1, 4]), [0, 8]),
    ("sp_star", (2, 12, [7, 2]), [0, 10]),
    ("sp_star", (0, 10, []), [-2]),
    ("sp_star", (3, LEAST_SIGNED, []), [-2]),
    ("sp_star", (2, 10, [7, 10]), [-3]),
    ("sp_long", (4, 12, [0, 8, 4, 3]), [3]),
    ("sp_long", (3, 10, [8, 1, 4]), [3]),
    ("sp_long", (1, 1, [0]), [1]),
    ("sp_long", (4097, 10, []), [-2]),
    ("sp_long", (3, 12, [0, 1, 12]), [-3]),
    ("sp_net", (2, 2, 2, [0, 0, 1, 2, 2, 1, 3, 3]), [0]),
    ("sp_net", (2, 1, 1, [1, 1]), [1]),
    ("sp_net", (3, 1, 1, [2, 0, 1]), [0]),
    ("sp_net", (5, 5, 1, []), [-2]),
    ("sp_net", (GREATEST_SIGNED, 1, 1, []), [-2]),
    ("sp_net", (2, 1, 1, [1, 2]), [-3]),
    ("sp_hammersley", (2, 2), [4, 0, 0, 1, 2, 2, 1, 3, 3]),
    ("sp_hammersley", (3, 1), [3, 0, 0, 1, 1, 2, 2]),
    ("sp_hammersley", (16, 5), [-2]),
    ("sp_box", (4, 2, 3, [0, 0, 1, 2, 2, 1, 3, 3]), [2]),
    ("sp_box", (0, 5, 7, []), [0]),
    ("sp_box", (1, 1, 1, [0, 0]), [1]),
    ("sp_box", (-1, 5, 7, []), [-2]),
)


def do(name, given):
    return getattr(spread, name)(*copy.deepcopy(given))


class Interface(unittest.TestCase):
    def test_each_takes_just_the_arguments_that_are_named(self):
        for name, arguments in ARGUMENTS.items():
            with self.subTest(name=name):
                parameters = inspect.signature(getattr(spread, name)).parameters
                self.assertEqual(list(parameters), arguments)
                for parameter in parameters.values():
                    self.assertEqual(parameter.kind, inspect.Parameter.POSITIONAL_OR_KEYWORD)
                    self.assertIs(parameter.default, inspect.Parameter.empty)

    def test_there_are_calls_of_each(self):
        self.assertEqual({name for name, given, answer in CALLS}, set(ARGUMENTS))

    def test_each_gives_back_a_list_of_whole_numbers(self):
        for name, given, answer in CALLS:
            with self.subTest(name=name, given=given):
                result = do(name, given)
                self.assertIs(type(result), list)
                self.assertEqual({type(number) for number in result}, {int})
                self.assertEqual(result, answer)

    def test_how_many_numbers_are_answered(self):
        for name, given, answer in CALLS:
            with self.subTest(name=name, given=given):
                result = do(name, given)
                if result[0] < 0:
                    self.assertIn(result, ([-2], [-3]))
                elif name == "sp_hammersley":
                    self.assertEqual(len(result), 1 + 2 * result[0])
                else:
                    self.assertEqual(len(result), 2 if name in ("sp_turn", "sp_star") else 1)

    def test_what_is_handed_in_is_not_changed_for_a_while_either(self):
        for name, given, answer in CALLS:
            with self.subTest(name=name, given=given):
                self.assertEqual(getattr(spread, name)(*watched(given)), answer)


class EachCallByItself(unittest.TestCase):
    def test_any_call_behind_any_other(self):
        for first, second in itertools.product(CALLS, repeat=2):
            with self.subTest(first=first[:2], second=second[:2]):
                self.assertEqual(do(first[0], first[1]), first[2])
                self.assertEqual(do(second[0], second[1]), second[2])

    def test_an_answer_that_is_changed_later_changes_no_other(self):
        for name, given, answer in CALLS:
            changed = do(name, given)
            changed.append(7)
            changed[0] = 99
        for name, given, answer in CALLS:
            with self.subTest(name=name, given=given):
                self.assertEqual(do(name, given), answer)

    def test_the_module_keeps_nothing(self):
        def kept():
            return {name: copy.deepcopy(value) for name, value in vars(spread).items() if name != "__builtins__"}

        before = kept()
        for name, given, answer in CALLS:
            do(name, given)
        self.assertEqual(kept(), before)
        for name in ARGUMENTS:
            self.assertEqual(vars(getattr(spread, name)), {})

    def test_each_call_as_the_very_first(self):
        # In a Python of its own for each function, so that nothing at all went before.
        for name in ARGUMENTS:
            given, answer = next((call[1], call[2]) for call in CALLS if call[0] == name)
            code = f"from spreadpoints.spread import {name}\nprint({name}(*{given!r}))"
            with self.subTest(name=name):
                done = subprocess.run([sys.executable, "-c", code], cwd=TOP, capture_output=True, text=True)
                self.assertEqual((done.stdout, done.stderr), (f"{answer}\n", ""))


if __name__ == "__main__":
    unittest.main()
