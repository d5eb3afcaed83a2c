"""Operations one after another, held to Python's own arithmetic: long numbers limb by limb, digits, and ways back."""

import random
import unittest

from flagwork.flags import do, when
from told import FULL, WIDTHS, sign_read, widths_of

LIMBS = 5


def limbs_of(number, width):
    """The limbs of a long number, the lowest first."""
    return [number >> width * place & 2 ** width - 1 for place in range(LIMBS)]


def number_of(limbs, width):
    return sum(limb << width * place for place, limb in enumerate(limbs))


def carried(first, then, limbs, others, width):
    """Goes from the lowest limb to the highest; gives the long number back, and the flags word at the end."""
    flags, out = FULL, []
    for place, (limb, other) in enumerate(zip(limbs, others)):
        _, lo, _, flags = do(then if place else first, width, limb, other, 0, flags)
        out.append(lo)
    return number_of(out, width), flags


def long_numbers(width):
    size = width * LIMBS
    numbers = random.Random(width)
    return [0, 1, 2 ** width - 1, 2 ** (size - 1), 2 ** size - 1] + [numbers.getrandbits(size) for _ in range(15)]


def pairs(width):
    numbers = long_numbers(width)
    return [(a, b) for a in numbers for b in numbers]


class LongNumbers(unittest.TestCase):
    def test_sums(self):
        for width in WIDTHS:
            size = width * LIMBS
            for a, b in pairs(width):
                got, flags = carried(0, 1, limbs_of(a, width), limbs_of(b, width), width)
                self.assertEqual(got, (a + b) % 2 ** size)
                self.assertEqual(when(flags, 2), [1 if a + b >= 2 ** size else 0])
                signed = sign_read(a, size) + sign_read(b, size)
                self.assertEqual(when(flags, 0), [0 if signed == sign_read(got, size) else 1])

    def test_differences(self):
        for width in WIDTHS:
            size = width * LIMBS
            for a, b in pairs(width):
                got, flags = carried(2, 3, limbs_of(a, width), limbs_of(b, width), width)
                self.assertEqual(got, (a - b) % 2 ** size)
                self.assertEqual(when(flags, 2), [1 if a < b else 0])
                less = sign_read(a, size) < sign_read(b, size)
                self.assertEqual(when(flags, 12), [1 if less else 0])

    def test_one_place_left_and_right(self):
        for width in WIDTHS:
            size = width * LIMBS
            for a in long_numbers(width):
                ones = [1] * LIMBS
                got, flags = carried(13, 18, limbs_of(a, width), ones, width)
                self.assertEqual(got + (flags % 2 << size), a * 2)
                got, flags = carried(14, 19, limbs_of(a, width)[::-1], ones, width)
                self.assertEqual(number_of(limbs_of(got, width)[::-1], width), a // 2)
                self.assertEqual(flags % 2, a % 2)

    def test_many_places_left_and_right(self):
        for width in (16, 32, 64):
            for a in long_numbers(width):
                limbs = [0] + limbs_of(a, width) + [0]
                for n in range(1, min(width, 32)):
                    left = [do(20, width, limbs[i], limbs[i - 1], n, 0)[1] for i in range(1, LIMBS + 2)]
                    right = [do(21, width, limbs[i], limbs[i + 1], n, 0)[1] for i in range(1, LIMBS + 1)]
                    self.assertEqual(number_of(left, width), a << n)
                    self.assertEqual(number_of(right, width), a >> n)

    def test_products_and_quotients_by_one_limb(self):
        for width in WIDTHS:
            for a in long_numbers(width):
                for by in (1, 2, 10, 2 ** width - 1):
                    product, over = [], 0
                    for limb in limbs_of(a, width):
                        _, lo, hi, _ = do(22, width, limb, by, 0, 0)
                        _, lo, _, flags = do(0, width, lo, over, 0, 0)
                        _, over, _, _ = do(1, width, hi, 0, 0, flags)
                        product.append(lo)
                    self.assertEqual(number_of(product + [over], width), a * by)
                    quotient, rest = [], over
                    for limb in product[::-1]:
                        _, lo, rest, _ = do(24, width, limb, by, rest, 0)
                        quotient.append(lo)
                    self.assertEqual((number_of(quotient[::-1], width), rest), (a, 0))


class WaysBack(unittest.TestCase):
    def each(self, op):
        for width in widths_of(op):
            for number in long_numbers(width):
                yield width, number % 2 ** width

    def back(self, first, then, steps):
        """A turn and the turn the other way end where they began, C and all where C is turned too."""
        for width, a in self.each(first):
            for n in range(steps):
                for flags in (0, FULL):
                    _, lo, _, after = do(first, width, a, n, 0, flags)
                    _, again, _, after = do(then, width, lo, n, 0, after)
                    self.assertEqual(again, a, (first, width, a, n))
                    if first >= 18:
                        self.assertEqual(after % 2, flags % 2, (first, width, a, n))

    def test_turns(self):
        self.back(16, 17, 70)
        self.back(17, 16, 70)
        self.back(18, 19, 70)
        self.back(19, 18, 70)

    def test_twice_is_as_before(self):
        for op in (5, 12, 29, 32):
            for width, a in self.each(op):
                self.assertEqual(do(op, width, do(op, width, a, 7, 0, 0)[1], 7, 0, 0)[1], a, (op, width, a))

    def test_up_and_down(self):
        for width, a in self.each(6):
            self.assertEqual(do(7, width, do(6, width, a, 0, 0, 0)[1], 0, 0, 0)[1], a)
            self.assertEqual(do(6, width, do(7, width, a, 0, 0, 0)[1], 0, 0, 0)[1], a)

    def test_a_signed_product_divided_again(self):
        for width, a in self.each(23):
            for b in (1, 2, 3, 2 ** (width - 1) - 1, 2 ** (width - 1), 2 ** width - 2, 2 ** width - 1):
                _, lo, hi, _ = do(23, width, a, b, 0, 0)
                got = do(25, width, lo, b, hi, 0)
                self.assertEqual(got, [0, a, 0, 0], (width, a, b))


class Digits(unittest.TestCase):
    def test_sums_and_differences_of_two_digits(self):
        for x in range(100):
            for y in range(100):
                a, b = int(str(x), 16), int(str(y), 16)
                _, lo, _, flags = do(0, 8, a, b, 0, 0)
                _, lo, _, flags = do(38, 8, lo, 0, 0, flags)
                self.assertEqual((lo, flags % 2), (int(str((x + y) % 100), 16), (x + y) // 100), (x, y))
                _, lo, _, flags = do(2, 8, a, b, 0, 0)
                _, lo, _, flags = do(39, 8, lo, 0, 0, flags)
                self.assertEqual((lo, flags % 2), (int(str((x - y) % 100), 16), 1 if x < y else 0), (x, y))

    def test_one_digit_a_byte(self):
        for x in range(10):
            for y in range(10):
                _, lo, _, flags = do(0, 8, x, y, 0, 0)
                self.assertEqual(do(40, 16, 0x500 + lo, 0, 0, flags)[1], (5 + (x + y) // 10) * 256 + (x + y) % 10)
                _, lo, _, flags = do(2, 8, x, y, 0, 0)
                self.assertEqual(do(41, 16, 0x500 + lo, 0, 0, flags)[1], (5 + (x - y) // 10) * 256 + (x - y) % 10)
                digits = do(42, 16, do(22, 8, x, y, 0, 0)[1], 10, 0, 0)[1]
                self.assertEqual(digits, x * y // 10 * 256 + x * y % 10)
                self.assertEqual(do(43, 16, digits, 10, 0, 0)[1], x * y)


if __name__ == "__main__":
    unittest.main()
