"""The field of bytes, and rows of bytes over it: their values, and which of them are right."""

REFUSED = -2
LARGEST_BYTE = 255
# Its top bit takes away the bit that a doubling moves past 255.
FOLD = 0x11D
# Every byte but 0 is 1 at the power 255, so at this power it is the byte that it makes 1 with.
INVERTING_POWER = 254


def is_byte(number):
    return 0 <= number and number <= LARGEST_BYTE


def twice(byte):
    moved = byte << 1
    if moved > LARGEST_BYTE:
        return moved ^ FOLD
    return moved


def product(a, b):
    """The product of two numbers that are known to be bytes."""
    total = 0
    doubled = a
    bits_left = b
    while bits_left > 0:
        if bits_left & 1 == 1:
            total = total ^ doubled
        doubled = twice(doubled)
        bits_left = bits_left >> 1
    return total


def raised(byte, exponent):
    """A byte to a power from 0 on, by squaring: few steps where the exponent is large."""
    total = 1
    squared = byte
    bits_left = exponent
    while bits_left > 0:
        if bits_left & 1 == 1:
            total = product(total, squared)
        squared = product(squared, squared)
        bits_left = bits_left >> 1
    return total


def value_at(x, row):
    """A row's value at a number that is known to be a byte."""
    total = 0
    for byte in row:
        total = product(total, x) ^ byte
    return total


def is_right(r, row):
    place = 1
    for count in range(r):
        if value_at(place, row) != 0:
            return False
        # The places are the powers of 2, so each is twice the one ahead of it.
        place = twice(place)
    return True


def mul(a, b):
    """The product of a and b as a list of one number, or [-2] where one of them is not a byte."""
    if not is_byte(a) or not is_byte(b):
        return [REFUSED]
    return [product(a, b)]


def div(a, b):
    """The byte whose product with b is a, as a list of one number, or [-2] where one is not a byte or b is 0."""
    if not is_byte(a) or not is_byte(b) or b == 0:
        return [REFUSED]
    return [product(a, raised(b, INVERTING_POWER))]


def power(a, e):
    """a to the power e as a list of one number, or [-2] where a is not a byte or e is below 0."""
    if not is_byte(a) or e < 0:
        return [REFUSED]
    return [raised(a, e)]


def value(x, row):
    """The row's value at x as a list of one number, or [-2] where x is not a byte."""
    if not is_byte(x):
        return [REFUSED]
    return [value_at(x, row)]


def right(r, row):
    """A list of one number: 1 if the row's value is 0 at 2 to the power i for every i from 0 to r - 1, else 0."""
    return [1 if is_right(r, row) else 0]
