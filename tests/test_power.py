"""Promise 1, as far as it speaks of pow, here power, and what the interface says of its answer."""

import unittest

from mendmarks.bytefield import power
from words import BYTES, NOT_BYTES, REFUSED, AnswerTests, powers

BELOW_ZERO = (-2147483648, -2147483647, -5000, -256, -255, -254, -2, -1)
FROM_ZERO_ON = (0, 1, 2, 8, 254, 255, 256, 4999, 5000)


class Powers(unittest.TestCase):
    def test_every_byte_to_the_first_powers(self):
        for a in BYTES:
            for e, wanted in enumerate(powers(a, 300)):
                self.assertEqual(power(a, e), [wanted], (a, e))

    def test_some_bytes_to_every_power(self):
        for a in (0, 1, 2, 3, 29, 128, 255):
            for e, wanted in enumerate(powers(a, 5000)):
                self.assertEqual(power(a, e), [wanted], (a, e))

    def test_powers_worked_out_by_hand(self):
        self.assertEqual(power(2, 7), [128])
        self.assertEqual(power(2, 8), [29])
        self.assertEqual(power(2, 9), [58])
        self.assertEqual(power(3, 2), [5])
        self.assertEqual(power(3, 3), [15])
        self.assertEqual(power(255, 2), [226])


class Edges(unittest.TestCase):
    def test_to_the_power_zero(self):
        for a in BYTES:
            self.assertEqual(power(a, 0), [1], a)

    def test_zero_to_a_power_above_zero(self):
        for e in range(1, 5001):
            self.assertEqual(power(0, e), [0], e)

    def test_to_the_power_one(self):
        for a in BYTES:
            self.assertEqual(power(a, 1), [a], a)

    def test_where_the_powers_come_round(self):
        for a in range(1, 256):
            self.assertEqual(power(a, 254), [powers(a, 254)[254]], a)
            self.assertEqual(power(a, 255), [1], a)
            self.assertEqual(power(a, 256), [a], a)

    def test_the_largest_powers(self):
        for a in BYTES:
            wanted = powers(a, 5000)
            self.assertEqual(power(a, 4999), [wanted[4999]], a)
            self.assertEqual(power(a, 5000), [wanted[5000]], a)


class Refusals(unittest.TestCase):
    def test_not_a_byte(self):
        for a in NOT_BYTES:
            for e in FROM_ZERO_ON:
                self.assertEqual(power(a, e), REFUSED, (a, e))

    def test_exponent_below_zero(self):
        for a in BYTES:
            for e in BELOW_ZERO:
                self.assertEqual(power(a, e), REFUSED, (a, e))

    def test_both_are_wrong(self):
        for a in NOT_BYTES:
            for e in BELOW_ZERO:
                self.assertEqual(power(a, e), REFUSED, (a, e))


class Answer(AnswerTests, unittest.TestCase):
    call = staticmethod(power)
    samples = [
        ((0, 0), [1]),
        ((0, 1), [0]),
        ((0, 5000), [0]),
        ((1, 0), [1]),
        ((1, 1), [1]),
        ((1, 5000), [1]),
        ((2, 8), [29]),
        ((255, 0), [1]),
        ((255, 1), [255]),
        ((255, 255), [1]),
        ((-1, 0), REFUSED),
        ((256, 1), REFUSED),
        ((2147483647, 5000), REFUSED),
        ((0, -1), REFUSED),
        ((1, -2147483648), REFUSED),
        ((-2147483648, -1), REFUSED),
    ]


if __name__ == "__main__":
    unittest.main()
