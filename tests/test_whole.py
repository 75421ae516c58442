"""What holds over the whole program: nothing is kept from one call to the next, whichever calls they are."""

import importlib.util
import itertools
import pathlib
import unittest

from mendmarks import bytefield
from words import REFUSED, made_row, powers, product, row_with_roots, value

FILE = pathlib.Path(__file__).resolve().parent.parent / "mendmarks" / "bytefield.py"

# Each call with what is answered, with what is refused, and with what is the same for several calls.
CALLS = [
    ("mul", (2, 128), [29]),
    ("mul", (87, 201), [product(87, 201)]),
    ("mul", (2, 256), REFUSED),
    ("div", (29, 128), [2]),
    ("div", (2, 128), [powers(2, 249)[249]]),
    ("div", (2, 0), REFUSED),
    ("power", (2, 128), [powers(2, 128)[128]]),
    ("power", (255, 5000), [powers(255, 5000)[5000]]),
    ("power", (2, -1), REFUSED),
    ("value", (2, [1, 3, 2]), [0]),
    ("value", (2, made_row(255, 4)), [value(2, made_row(255, 4))]),
    ("value", (-1, [1, 3, 2]), REFUSED),
    ("right", (2, [1, 3, 2]), [1]),
    ("right", (3, [1, 3, 2]), [0]),
    ("right", (20, row_with_roots([5, 0, 9], range(20))), [1]),
]


def answer_of(module, name, given):
    return getattr(module, name)(*given)


def loaded_anew():
    spec = importlib.util.spec_from_file_location("bytefield_anew", FILE)
    module = importlib.util.module_from_spec(spec)
    spec.loader.exec_module(module)
    return module


class Whole(unittest.TestCase):
    def test_called_for_the_first_time(self):
        for name, given, wanted in CALLS:
            self.assertEqual(answer_of(loaded_anew(), name, given), wanted, (name, given))

    def test_any_call_behind_any_two(self):
        for row in itertools.product(CALLS, repeat=3):
            for name, given, wanted in row:
                self.assertEqual(answer_of(bytefield, name, given), wanted, row)

    def test_the_five_in_every_order(self):
        for which in range(3):
            five = [CALLS[which + 3 * place] for place in range(5)]
            self.assertEqual(len({name for name, given, wanted in five}), 5)
            for order in itertools.permutations(five):
                for name, given, wanted in order:
                    self.assertEqual(answer_of(bytefield, name, given), wanted, order)

    def test_one_answer_changed_alters_no_other_call(self):
        for first, second in itertools.product(CALLS, repeat=2):
            earlier = answer_of(bytefield, first[0], first[1])
            earlier[0] = 99
            earlier.append(100)
            self.assertEqual(answer_of(bytefield, second[0], second[1]), second[2], (first, second))

    def test_one_row_for_several_calls(self):
        row = [1, 3, 2]
        for step in range(3):
            self.assertEqual(bytefield.right(2, row), [1])
            self.assertEqual(bytefield.value(2, row), [0])
            self.assertEqual(bytefield.value(0, row), [2])
            self.assertEqual(bytefield.right(3, row), [0])
            self.assertEqual(row, [1, 3, 2])

    def test_a_row_changed_by_the_caller_is_read_anew(self):
        row = [1, 3, 2]
        self.assertEqual(bytefield.right(2, row), [1])
        self.assertEqual(bytefield.value(1, row), [0])
        row[2] = 3
        self.assertEqual(bytefield.right(2, row), [0])
        self.assertEqual(bytefield.value(1, row), [1])
        row.append(9)
        self.assertEqual(bytefield.value(0, row), [9])


if __name__ == "__main__":
    unittest.main()
