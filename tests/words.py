"""What the tests share: the document's words written out once more, and the checks that hold for every answer.

Nothing here draws on the package, so that what is wrong there can't hide itself.
"""

import contextlib
import copy
import functools
import io

BYTES = range(256)
NOT_BYTES = (-2147483648, -2147483647, -256, -255, -2, -1, 256, 257, 285, 511, 512, 65536, 2147483646, 2147483647)
REFUSED = [-2]


def doubled(a, times):
    for step in range(times):
        a = a * 2
        if a > 255:
            a = a ^ 0x11D
    return a


@functools.lru_cache(maxsize=None)
def product(a, b):
    total = 0
    for k in range(8):
        if (b // 2 ** k) % 2 == 1:
            total = total ^ doubled(a, k)
    return total


def powers(a, largest):
    """a to the power 0, 1 and on, up to the largest exponent."""
    found = [1]
    for e in range(largest):
        found.append(product(a, found[e]))
    return found


def value(x, row):
    """(...((c0) x + c1) x + ...) x + c(n-1), read from the inside out."""
    if row == []:
        return 0
    total = row[0]
    for byte in row[1:]:
        total = product(total, x) ^ byte
    return total


POWERS_OF_TWO = powers(2, 255)


def right(r, row):
    for i in range(r):
        if value(POWERS_OF_TWO[i], row) != 0:
            return 0
    return 1


def times_factor(row, root):
    """The row multiplied by x + root, which is 0 at root; it is one byte longer."""
    moved = row + [0]
    taken = [0] + [product(byte, root) for byte in row]
    return [first ^ second for first, second in zip(moved, taken)]


def row_with_roots(row, exponents):
    """The row multiplied so that its value is 0 at 2 to the power of each exponent."""
    for i in exponents:
        row = times_factor(row, POWERS_OF_TWO[i])
    return row


def made_row(length, start):
    """A row of mixed bytes, the same each time it is asked for."""
    row = []
    state = start
    for place in range(length):
        state = (state * 1103515245 + 12345) % 2147483648
        row.append(state // 65536 % 256)
    return row


class GuardedRow(list):
    """A row that fails the test when it is changed, even if it is changed back."""

    def refuse(self, *given, **named):
        raise AssertionError("what is handed in was changed")

    append = extend = insert = remove = pop = clear = sort = reverse = refuse
    __setitem__ = __delitem__ = __iadd__ = __imul__ = refuse


class AnswerTests:
    """Mixed into a TestCase with `call` and `samples`: pairs of what is handed in and the answer that is wanted."""

    def test_a_list_of_one_whole_number(self):
        for given, wanted in self.samples:
            answer = self.call(*given)
            self.assertIs(type(answer), list, given)
            self.assertEqual(len(answer), 1, given)
            self.assertIs(type(answer[0]), int, given)
            self.assertEqual(answer, wanted, given)

    def test_asked_again_it_answers_the_same(self):
        for given, wanted in list(self.samples) + list(reversed(self.samples)):
            self.assertEqual(self.call(*given), wanted, given)
            self.assertEqual(self.call(*given), wanted, given)

    def test_a_changed_answer_alters_no_later_one(self):
        for given, wanted in self.samples:
            earlier = self.call(*given)
            earlier[0] = 99
            earlier.append(100)
            self.assertEqual(self.call(*given), wanted, given)

    def test_what_is_handed_in_stays(self):
        for given, wanted in self.samples:
            ahead = copy.deepcopy(given)
            answer = self.call(*given)
            self.assertEqual(given, ahead)
            for part in given:
                self.assertIsNot(answer, part)
            answer[0] = 99
            answer.append(100)
            self.assertEqual(given, ahead)

    def test_what_is_handed_in_is_not_changed_for_a_while(self):
        for given, wanted in self.samples:
            guarded = [GuardedRow(part) if isinstance(part, list) else part for part in given]
            self.assertEqual(self.call(*guarded), wanted, given)

    def test_nothing_is_printed(self):
        printed = io.StringIO()
        with contextlib.redirect_stdout(printed), contextlib.redirect_stderr(printed):
            for given, wanted in self.samples:
                self.call(*given)
        self.assertEqual(printed.getvalue(), "")
