"""Promise 1, as far as it speaks of div, and what the interface says of its answer."""

import unittest

from mendmarks.bytefield import div
from words import BYTES, NOT_BYTES, REFUSED, AnswerTests, product

DIVISORS = range(1, 256)


class Quotient(unittest.TestCase):
    def test_every_byte_by_every_divisor(self):
        for a in BYTES:
            for b in DIVISORS:
                answer = div(a, b)
                self.assertEqual(len(answer), 1, (a, b))
                self.assertIn(answer[0], BYTES, (a, b))
                self.assertEqual(product(answer[0], b), a, (a, b))

    def test_quotients_worked_out_by_hand(self):
        self.assertEqual(div(5, 3), [3])
        self.assertEqual(div(9, 3), [7])
        self.assertEqual(div(9, 7), [3])
        self.assertEqual(div(58, 4), [128])
        self.assertEqual(div(29, 128), [2])
        self.assertEqual(div(1, 2), [142])


class Edges(unittest.TestCase):
    def test_zero_divided(self):
        for b in DIVISORS:
            self.assertEqual(div(0, b), [0], b)

    def test_divided_by_one(self):
        for a in BYTES:
            self.assertEqual(div(a, 1), [a], a)

    def test_divided_by_itself(self):
        for a in DIVISORS:
            self.assertEqual(div(a, a), [1], a)

    def test_divided_by_zero(self):
        for a in BYTES:
            self.assertEqual(div(a, 0), REFUSED, a)


class Refusals(unittest.TestCase):
    def test_first_is_not_a_byte(self):
        for a in NOT_BYTES:
            for b in BYTES:
                self.assertEqual(div(a, b), REFUSED, (a, b))

    def test_second_is_not_a_byte(self):
        for a in BYTES:
            for b in NOT_BYTES:
                self.assertEqual(div(a, b), REFUSED, (a, b))

    def test_neither_is_a_byte(self):
        for a in NOT_BYTES:
            for b in NOT_BYTES:
                self.assertEqual(div(a, b), REFUSED, (a, b))


class Answer(AnswerTests, unittest.TestCase):
    call = staticmethod(div)
    samples = [
        ((0, 1), [0]),
        ((0, 255), [0]),
        ((1, 1), [1]),
        ((255, 255), [1]),
        ((255, 1), [255]),
        ((1, 2), [142]),
        ((29, 128), [2]),
        ((0, 0), REFUSED),
        ((1, 0), REFUSED),
        ((255, 0), REFUSED),
        ((-1, 1), REFUSED),
        ((1, 256), REFUSED),
        ((-2147483648, 0), REFUSED),
        ((0, 2147483647), REFUSED),
        ((256, -1), REFUSED),
    ]


if __name__ == "__main__":
    unittest.main()
