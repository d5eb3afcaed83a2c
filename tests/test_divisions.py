"""Products and quotients: signs, the least and the greatest numbers, and just inside or outside."""

import unittest

from flagwork.flags import do
from holding import FLAGS, Holding, edges
from told import FULL, WIDTHS

C, O = 1, 2048


def split(number, width):
    """A number of 2 w bits, below 0 or not, as its two halves: the lower one, the higher one."""
    n = 2 ** width
    number = number % (n * n)
    return number % n, number // n


def signed_values(width):
    n = 2 ** width
    return [0, 1, 2, 7, n // 2 - 1, -1, -2, -7, -(n // 2), -(n // 2) + 1]


class SignedProduct(Holding):
    def test_each_pair_of_signs(self):
        for width in WIDTHS:
            n = 2 ** width
            for x in signed_values(width):
                for y in signed_values(width):
                    fits = -(n // 2) <= x * y <= n // 2 - 1
                    for flags in FLAGS:
                        got = self.hold(23, width, x % n, y % n, 5, flags)
                        self.assertEqual((got[1], got[2]), split(x * y, width))
                        want = flags & ~(C + O) if fits else flags | C + O
                        self.assertEqual(got[3], want)

    def test_just_inside_and_just_outside(self):
        for width in WIDTHS:
            half = 2 ** (width - 1)
            quarter = half // 2
            self.assertEqual(do(23, width, quarter, 2 ** width - 2, 0, FULL)[3], FULL - C - O)
            self.assertEqual(do(23, width, quarter, 2, 0, 0)[3], C + O)
            self.assertEqual(do(23, width, half - 1, 1, 0, FULL)[3], FULL - C - O)


class UnsignedProduct(Holding):
    def test_just_inside_and_just_outside(self):
        for width in WIDTHS:
            n = 2 ** width
            self.assertEqual(do(22, width, n - 1, 1, 0, FULL), [0, n - 1, 0, FULL - C - O])
            self.assertEqual(do(22, width, n // 2, 2, 0, 0), [0, 0, 1, C + O])
            self.assertEqual(do(22, width, n - 1, n - 1, 0, 0), [0, 1, n - 2, C + O])


class UnsignedQuotient(Holding):
    def test_just_inside_and_just_outside(self):
        for width in WIDTHS:
            n = 2 ** width
            for b in (1, 2, 3, n // 2, n - 1):
                self.assertEqual(do(24, width, n - 1, b, b - 1, FULL), [0, n - 1, b - 1, FULL])
                for c in {b, n - 1}:
                    self.assertEqual(do(24, width, 0, b, c, FULL), [-3])

    def test_a_division_by_0_is_refused(self):
        for op in (24, 25):
            for width in WIDTHS:
                for a in edges(width):
                    for c in edges(width):
                        self.assertEqual(do(op, width, a, 0, c, FULL), [-3])
                if width < 64:
                    self.assertEqual(do(op, width, 5, 2 ** width, 0, 0), [-3])

    def test_gives_no_flag(self):
        for op in (24, 25):
            for width in WIDTHS:
                for flags in FLAGS:
                    self.assertEqual(do(op, width, 7, 2, 0, flags), [0, 3, 1, flags])


class SignedQuotient(Holding):
    def test_each_pair_of_signs(self):
        for width in WIDTHS:
            n = 2 ** width
            for x in signed_values(width):
                for y in signed_values(width):
                    lo, hi = split(x, width)
                    got = self.hold(25, width, lo, y % n, hi, 0xA5A5A5A5)
                    if len(got) == 4:
                        self.check_rest(width, x, y, got)

    def check_rest(self, width, x, y, got):
        quotient, rest = [number - 2 ** width if number >= 2 ** (width - 1) else number for number in got[1:3]]
        self.assertEqual(quotient * y + rest, x)
        self.assertLess(abs(rest), abs(y))
        self.assertTrue(rest == 0 or (rest < 0) == (x < 0))

    def test_at_each_end_of_the_quotient(self):
        for width in WIDTHS:
            n = 2 ** width
            for y in (1, -1, 2, -2, 3, -3, 100, -100, n // 2 - 1, -(n // 2)):
                for quotient in (-(n // 2) - 1, -(n // 2), n // 2 - 1, n // 2):
                    for rest in {0, abs(y) - 1}:
                        self.check_end(width, y, quotient, rest)

    def check_end(self, width, y, quotient, rest):
        n = 2 ** width
        dividend = quotient * y
        below = dividend < 0
        dividend = dividend - rest if below else dividend + rest
        lo, hi = split(dividend, width)
        got = self.hold(25, width, lo, y % n, hi, FULL)
        if quotient in (-(n // 2) - 1, n // 2):
            self.assertEqual(got, [-3])
        else:
            self.assertEqual(got, [0, quotient % n, (-rest if below else rest) % n, FULL])

    def test_every_byte_pair_of_8_bits(self):
        for c in (0, 1, 63, 64, 127, 128, 191, 192, 254, 255):
            for a in range(0, 256, 5):
                for b in range(256):
                    self.hold(25, 8, a, b, c, 0)
                    self.hold(24, 8, a, b, c, 0)


if __name__ == "__main__":
    unittest.main()
