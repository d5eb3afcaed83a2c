"""What the test files share: operands, flags words, and how an answer is held to what is told."""

import unittest
from itertools import product

from flagwork.flags import do
from told import FULL, GREATEST, PLACES, told, widths_of

MEANING = 1 + 4 + 16 + 64 + 128 + 2048

# All 0, all 1, the six flags alone, all others alone, mixed ones, and C and A in each way.
FLAGS = (
    0, FULL, MEANING, FULL - MEANING, 0xA5A5A5A5, 0x5A5A5A5A,
    1, 4, 16, 64, 128, 2048, 17, FULL - 1, FULL - 16, FULL - 17,
)
FEW_FLAGS = (0, FULL, 0xA5A5A5A4, 0x5A5A5A5B)


def each_operation():
    """Every operation with every width that it has."""
    return [(op, width) for op in range(44) for width in widths_of(op)]


def words_of_flags():
    """Each of the 64 ways that the six flags stand, all other bits 0."""
    for chosen in product((0, 1), repeat=6):
        yield sum(2 ** PLACES[name] for name, one in zip("CPAZSO", chosen) if one)


def all_words():
    """Each of the 64 ways that the six flags stand, with all other bits 0 and with all of them 1."""
    return [flags + others for flags in words_of_flags() for others in (0, FULL - MEANING)]


def edges(width):
    n = 2 ** width
    return [0, 1, n // 2 - 1, n // 2, n - 1]


def operands(width):
    """The edges, numbers beside them, ordinary ones, and ones of N and more."""
    n = 2 ** width
    ordinary = [2, 9, 10, 15, 16, n // 2 + 1, n - 2, 0x0123456789ABCDEF % n, 0xC3A5963C5AE1780F % n]
    beyond = [n, n + 1, n + n // 2, 3 * n - 1, GREATEST] if width < 64 else []
    return edges(width) + ordinary + beyond


class Holding(unittest.TestCase):
    def hold(self, op, width, a, b, c, flags):
        """Holds one answer to what is told, and gives it back."""
        got = do(op, width, a, b, c, flags)
        want = told(op, width, a, b, c, flags)
        if got != want:
            self.fail("do(%d, %d, %d, %d, %d, %d) answers %r, not %r" % (op, width, a, b, c, flags, got, want))
        if not (isinstance(got, list) and all(type(number) is int for number in got)):
            self.fail("do(%d, %d, %d, %d, %d, %d) answers %r: a kind is wrong" % (op, width, a, b, c, flags, got))
        return got
