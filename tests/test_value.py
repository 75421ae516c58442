"""Promise 2, the value of a row, and what the interface says of its answer."""

import unittest

from mendmarks.bytefield import value
from words import BYTES, NOT_BYTES, REFUSED, AnswerTests, made_row, product
from words import value as value_by_the_document

PLACES = (0, 1, 2, 3, 4, 29, 127, 128, 129, 142, 254, 255)


def made_rows():
    return [made_row(length, length * 7 + 1) for length in range(1, 256)]


class Values(unittest.TestCase):
    def test_rows_of_every_length(self):
        for row in made_rows():
            for x in PLACES:
                self.assertEqual(value(x, row), [value_by_the_document(x, row)], (x, row))

    def test_rows_at_every_byte(self):
        for length in (1, 2, 3, 4, 5, 17, 100, 254, 255):
            row = made_row(length, length + 1000)
            for x in BYTES:
                self.assertEqual(value(x, row), [value_by_the_document(x, row)], (x, row))

    def test_values_worked_out_by_hand(self):
        self.assertEqual(value(2, [1, 0]), [2])
        self.assertEqual(value(2, [0, 1]), [1])
        self.assertEqual(value(2, [1, 0, 7]), [3])
        self.assertEqual(value(2, [128, 1]), [28])
        self.assertEqual(value(3, [1, 2, 3]), [0])


class Edges(unittest.TestCase):
    def test_empty_row(self):
        for x in BYTES:
            self.assertEqual(value(x, []), [0], x)

    def test_row_of_one_byte(self):
        for x in BYTES:
            for byte in BYTES:
                self.assertEqual(value(x, [byte]), [byte], (x, byte))

    def test_row_of_two_bytes(self):
        for x in BYTES:
            for first in BYTES:
                self.assertEqual(value(x, [first, 77]), [product(first, x) ^ 77], (x, first))

    def test_at_zero_the_last_byte(self):
        for row in made_rows():
            self.assertEqual(value(0, row), [row[-1]], row)

    def test_at_one_the_exclusive_or(self):
        for row in made_rows():
            wanted = 0
            for byte in row:
                wanted = wanted ^ byte
            self.assertEqual(value(1, row), [wanted], row)

    def test_rows_of_zero_alone(self):
        for length in range(256):
            for x in PLACES:
                self.assertEqual(value(x, [0] * length), [0], (x, length))

    def test_rows_of_255_alone(self):
        for length in range(1, 256):
            row = [255] * length
            for x in PLACES:
                self.assertEqual(value(x, row), [value_by_the_document(x, row)], (x, length))

    def test_zeros_ahead_alter_nothing(self):
        for length in (0, 1, 2, 50, 250):
            row = made_row(length, length + 5)
            for zeros in (1, 2, 5):
                for x in BYTES:
                    self.assertEqual(value(x, [0] * zeros + row), [value_by_the_document(x, row)], (x, zeros, row))

    def test_zeros_behind_count(self):
        for x in BYTES:
            self.assertEqual(value(x, [1, 0, 0]), [product(x, x)], x)


class Refusals(unittest.TestCase):
    def test_not_a_byte(self):
        for x in NOT_BYTES:
            for row in ([], [0], [1], [255], [0] * 255, made_row(9, 9), made_row(255, 255)):
                self.assertEqual(value(x, row), REFUSED, (x, row))


class Answer(AnswerTests, unittest.TestCase):
    call = staticmethod(value)
    samples = [
        ((0, []), [0]),
        ((255, []), [0]),
        ((0, [0]), [0]),
        ((7, [1]), [1]),
        ((7, [255]), [255]),
        ((2, [1, 0, 7]), [3]),
        ((2, [0, 128, 1]), [28]),
        ((1, [255] * 255), [255]),
        ((0, made_row(255, 3)), [made_row(255, 3)[-1]]),
        ((-1, []), REFUSED),
        ((256, [0]), REFUSED),
        ((-2147483648, [1, 2]), REFUSED),
        ((2147483647, [255] * 255), REFUSED),
    ]


if __name__ == "__main__":
    unittest.main()
