"""Promise 3, which rows are right, and what the interface says of its answer."""

import unittest

from mendmarks.bytefield import right
from words import BYTES, POWERS_OF_TWO, AnswerTests, made_row, row_with_roots
from words import right as right_by_the_document
from words import value as value_by_the_document

LENGTHS = (1, 2, 3, 4, 5, 8, 13, 40, 100, 128, 200, 254, 255)


def some_up_to(length):
    return sorted({r for r in (0, 1, 2, 3, 7, length // 2, length - 2, length - 1, length) if 0 <= r <= length})


def right_for_just(r, length):
    """A row of that length, longer than r, that is right for r and not for r + 1."""
    start = made_row(length - r, r + length)
    if value_by_the_document(POWERS_OF_TWO[r], start) == 0:
        start[-1] = start[-1] ^ 1
    return row_with_roots(start, range(r))


class RightRows(unittest.TestCase):
    def test_mixed_rows(self):
        for length in range(1, 256):
            row = made_row(length, length * 3 + 2)
            for r in some_up_to(length):
                self.assertEqual(right(r, row), [right_by_the_document(r, row)], (r, row))

    def test_every_row_of_two_bytes(self):
        for a in BYTES:
            for b in BYTES:
                for r in range(3):
                    self.assertEqual(right(r, [a, b]), [right_by_the_document(r, [a, b])], (r, a, b))

    def test_rows_right_for_r_and_no_more(self):
        for length in LENGTHS:
            for r in some_up_to(length - 1):
                row = right_for_just(r, length)
                self.assertEqual(len(row), length)
                self.assertEqual(right_by_the_document(r, row), 1)
                for fewer in some_up_to(r):
                    self.assertEqual(right(fewer, row), [1], (fewer, row))
                self.assertEqual(right(r + 1, row), [0], (r + 1, row))
                self.assertEqual(right(length, row), [0], (length, row))

    def test_one_byte_changed(self):
        for length in LENGTHS:
            for r in some_up_to(length - 1):
                row = right_for_just(r, length)
                for place in sorted({0, length // 3, length - 1}):
                    for change in (1, 128, 255):
                        changed = list(row)
                        changed[place] = changed[place] ^ change
                        wanted = right_by_the_document(r, changed)
                        self.assertEqual(wanted, 1 if r == 0 else 0)
                        self.assertEqual(right(r, changed), [wanted], (r, changed))

    def test_rows_worked_out_by_hand(self):
        self.assertEqual(right(1, [1, 1]), [1])
        self.assertEqual(right(2, [1, 1]), [0])
        self.assertEqual(right(2, [1, 3, 2]), [1])
        self.assertEqual(right(3, [1, 3, 2]), [0])
        self.assertEqual(right(1, [1, 2]), [0])
        self.assertEqual(right(2, [1, 2]), [0])


class Edges(unittest.TestCase):
    def test_r_of_zero(self):
        self.assertEqual(right(0, []), [1])
        for length in range(1, 256):
            self.assertEqual(right(0, made_row(length, length)), [1], length)
            self.assertEqual(right(0, [255] * length), [1], length)

    def test_r_of_the_length(self):
        # As many zeros as the row has bytes: only 0 alone has so many.
        for length in LENGTHS:
            self.assertEqual(right(length, right_for_just(length - 1, length)), [0], length)
        for length in range(1, 256):
            self.assertEqual(right(length, [0] * (length - 1) + [1]), [0], length)
            self.assertEqual(right(length, [1] + [0] * (length - 1)), [0], length)

    def test_rows_of_zero_alone(self):
        for length in range(30):
            for r in range(length + 1):
                self.assertEqual(right(r, [0] * length), [1], (r, length))
        for length in LENGTHS:
            for r in some_up_to(length):
                self.assertEqual(right(r, [0] * length), [1], (r, length))

    def test_row_of_one_byte(self):
        for byte in BYTES:
            self.assertEqual(right(1, [byte]), [1 if byte == 0 else 0], byte)

    def test_255_bytes_with_r_of_255(self):
        self.assertEqual(right(255, [0] * 255), [1])
        self.assertEqual(right(255, [1] * 255), [0])
        self.assertEqual(right(255, made_row(255, 1)), [0])
        self.assertEqual(right(254, right_for_just(254, 255)), [1])
        self.assertEqual(right(255, right_for_just(254, 255)), [0])

    def test_zero_at_every_place_but_one(self):
        for r in (1, 2, 3, 8, 9, 50, 254, 255):
            for left_out in sorted({0, r // 2, r - 1}):
                row = row_with_roots([1], [i for i in range(r) if i != left_out])
                values = [value_by_the_document(place, row) for place in POWERS_OF_TWO[:r]]
                self.assertEqual([i for i in range(r) if values[i] != 0], [left_out])
                self.assertEqual(right(r, row), [0], (r, left_out))
                self.assertEqual(right(left_out, row), [1], (r, left_out))

    def test_zeros_ahead_alter_nothing(self):
        for r in (1, 2, 5, 30):
            row = [0] * 3 + right_for_just(r, r + 4)
            self.assertEqual(right(r, row), [1], row)
            self.assertEqual(right(r + 1, row), [0], row)


class Answer(AnswerTests, unittest.TestCase):
    call = staticmethod(right)
    samples = [
        ((0, []), [1]),
        ((0, [7]), [1]),
        ((1, [0]), [1]),
        ((1, [1]), [0]),
        ((1, [255]), [0]),
        ((2, [1, 3, 2]), [1]),
        ((3, [1, 3, 2]), [0]),
        ((255, [0] * 255), [1]),
        ((255, [1] * 255), [0]),
        ((254, right_for_just(254, 255)), [1]),
        ((255, right_for_just(254, 255)), [0]),
    ]


if __name__ == "__main__":
    unittest.main()
