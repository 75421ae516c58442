"""Promise 1, as far as it speaks of mul, and what the interface says of its answer."""

import contextlib
import io
import unittest

from mendmarks.bytefield import mul

BYTES = range(256)
NOT_BYTES = (-2147483648, -2147483647, -256, -255, -2, -1, 256, 257, 285, 511, 512, 65536, 2147483646, 2147483647)
REFUSED = [-2]


def doubled(a, times):
    for step in range(times):
        a = a * 2
        if a > 255:
            a = a ^ 0x11D
    return a


def product_by_the_document(a, b):
    total = 0
    for k in range(8):
        if (b // 2 ** k) % 2 == 1:
            total = total ^ doubled(a, k)
    return total


class Product(unittest.TestCase):
    def test_every_pair_of_bytes(self):
        for a in BYTES:
            for b in BYTES:
                self.assertEqual(mul(a, b), [product_by_the_document(a, b)], (a, b))

    def test_products_worked_out_by_hand(self):
        self.assertEqual(mul(3, 3), [5])
        self.assertEqual(mul(3, 7), [9])
        self.assertEqual(mul(128, 4), [58])
        self.assertEqual(mul(4, 128), [58])
        self.assertEqual(mul(129, 3), [158])

    def test_bytes_are_a_field(self):
        for a in range(1, 256):
            row = [mul(a, b)[0] for b in BYTES]
            self.assertEqual(sorted(row), list(BYTES), a)


class Edges(unittest.TestCase):
    def test_zero_in_either_place(self):
        for a in BYTES:
            self.assertEqual(mul(a, 0), [0], a)
            self.assertEqual(mul(0, a), [0], a)

    def test_one_in_either_place(self):
        for a in BYTES:
            self.assertEqual(mul(a, 1), [a], a)
            self.assertEqual(mul(1, a), [a], a)

    def test_doubling_that_stays_a_byte(self):
        self.assertEqual(mul(2, 127), [254])
        self.assertEqual(mul(127, 2), [254])

    def test_doubling_that_goes_past_255(self):
        self.assertEqual(mul(2, 128), [29])
        self.assertEqual(mul(128, 2), [29])
        self.assertEqual(mul(255, 2), [227])
        self.assertEqual(mul(2, 255), [227])

    def test_largest_byte_by_itself(self):
        self.assertEqual(mul(255, 255), [226])


class Refusals(unittest.TestCase):
    def test_first_is_not_a_byte(self):
        for a in NOT_BYTES:
            for b in BYTES:
                self.assertEqual(mul(a, b), REFUSED, (a, b))

    def test_second_is_not_a_byte(self):
        for a in BYTES:
            for b in NOT_BYTES:
                self.assertEqual(mul(a, b), REFUSED, (a, b))

    def test_neither_is_a_byte(self):
        for a in NOT_BYTES:
            for b in NOT_BYTES:
                self.assertEqual(mul(a, b), REFUSED, (a, b))

    def test_zero_does_not_hide_what_is_not_a_byte(self):
        for wrong in (-1, 256, -2147483648, 2147483647):
            self.assertEqual(mul(0, wrong), REFUSED, wrong)
            self.assertEqual(mul(wrong, 0), REFUSED, wrong)


class Answer(unittest.TestCase):
    def test_a_list_of_one_whole_number(self):
        numbers = list(BYTES) + list(NOT_BYTES)
        for a in numbers:
            for b in numbers:
                answer = mul(a, b)
                self.assertIs(type(answer), list, (a, b))
                self.assertEqual(len(answer), 1, (a, b))
                self.assertIs(type(answer[0]), int, (a, b))

    def test_asked_again_it_answers_the_same(self):
        pairs = [(2, 128), (256, 1), (0, 0), (1, 1), (255, 255), (1, -1), (-1, -1)]
        first = [mul(a, b) for a, b in pairs]
        again = [mul(a, b) for a, b in reversed(pairs)]
        self.assertEqual(first, list(reversed(again)))

    def test_a_changed_answer_alters_no_later_one(self):
        for a, b, wanted in ((2, 128, [29]), (0, 7, [0]), (1, 1, [1]), (256, 1, [-2]), (1, -1, [-2])):
            earlier = mul(a, b)
            earlier[0] = 99
            earlier.append(100)
            self.assertEqual(mul(a, b), wanted, (a, b))

    def test_nothing_is_printed(self):
        printed = io.StringIO()
        with contextlib.redirect_stdout(printed), contextlib.redirect_stderr(printed):
            mul(2, 128)
            mul(256, 1)
        self.assertEqual(printed.getvalue(), "")


if __name__ == "__main__":
    unittest.main()
