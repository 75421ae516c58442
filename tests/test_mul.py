"""Promise 1, as far as it speaks of mul, and what the interface says of its answer."""

import unittest

from mendmarks.bytefield import mul
from words import BYTES, NOT_BYTES, REFUSED, AnswerTests, product


class Product(unittest.TestCase):
    def test_every_pair_of_bytes(self):
        for a in BYTES:
            for b in BYTES:
                self.assertEqual(mul(a, b), [product(a, b)], (a, b))

    def test_products_worked_out_by_hand(self):
        self.assertEqual(mul(3, 3), [5])
        self.assertEqual(mul(3, 7), [9])
        self.assertEqual(mul(128, 4), [58])
        self.assertEqual(mul(4, 128), [58])
        self.assertEqual(mul(129, 3), [158])

    def test_bytes_are_a_field(self):
        for a in range(1, 256):
            row = [mul(a, b)[0] for b in BYTES]
            self.assertEqual(sorted(row), list(BYTES), a)


class Edges(unittest.TestCase):
    def test_zero_in_either_place(self):
        for a in BYTES:
            self.assertEqual(mul(a, 0), [0], a)
            self.assertEqual(mul(0, a), [0], a)

    def test_one_in_either_place(self):
        for a in BYTES:
            self.assertEqual(mul(a, 1), [a], a)
            self.assertEqual(mul(1, a), [a], a)

    def test_doubling_that_stays_a_byte(self):
        self.assertEqual(mul(2, 127), [254])
        self.assertEqual(mul(127, 2), [254])

    def test_doubling_that_goes_past_255(self):
        self.assertEqual(mul(2, 128), [29])
        self.assertEqual(mul(128, 2), [29])
        self.assertEqual(mul(255, 2), [227])
        self.assertEqual(mul(2, 255), [227])

    def test_largest_byte_by_itself(self):
        self.assertEqual(mul(255, 255), [226])


class Refusals(unittest.TestCase):
    def test_first_is_not_a_byte(self):
        for a in NOT_BYTES:
            for b in BYTES:
                self.assertEqual(mul(a, b), REFUSED, (a, b))

    def test_second_is_not_a_byte(self):
        for a in BYTES:
            for b in NOT_BYTES:
                self.assertEqual(mul(a, b), REFUSED, (a, b))

    def test_neither_is_a_byte(self):
        for a in NOT_BYTES:
            for b in NOT_BYTES:
                self.assertEqual(mul(a, b), REFUSED, (a, b))

    def test_zero_does_not_hide_what_is_not_a_byte(self):
        for wrong in (-1, 256, -2147483648, 2147483647):
            self.assertEqual(mul(0, wrong), REFUSED, wrong)
            self.assertEqual(mul(wrong, 0), REFUSED, wrong)


def every_pair():
    numbers = list(BYTES) + list(NOT_BYTES)
    for a in numbers:
        for b in numbers:
            both = a in BYTES and b in BYTES
            yield (a, b), [product(a, b)] if both else REFUSED


class Answer(AnswerTests, unittest.TestCase):
    call = staticmethod(mul)
    samples = list(every_pair())


if __name__ == "__main__":
    unittest.main()
