"""38 to 43 at every lower byte, with k and A each 0 and 1."""

import unittest

from flagwork.flags import do
from holding import Holding
from told import FULL

# k and A each 0 and 1, all else 0, then all else 1.
CARRIES = (0, 1, 16, 17, FULL - 17, FULL - 16, FULL - 1, FULL)
HIGHER = (0, 1, 2, 9, 127, 128, 254, 255)


class TwoDigits(Holding):
    def test_every_byte(self):
        for op in (38, 39):
            for a in range(256):
                for flags in CARRIES:
                    self.hold(op, 8, a, 0, 0, flags)
                    self.hold(op, 8, a + 512, 77, 88, flags)

    def test_every_sum_of_two_digits_is_put_right(self):
        for x in range(100):
            for y in range(100):
                added = do(0, 8, x // 10 * 16 + x % 10, y // 10 * 16 + y % 10, 0, 0)
                right = do(38, 8, added[1], 0, 0, added[3])
                total = (x + y) % 100
                self.assertEqual(right[1], total // 10 * 16 + total % 10)
                self.assertEqual(right[3] & 1, 1 if x + y > 99 else 0)

    def test_every_difference_of_two_digits_is_put_right(self):
        for x in range(100):
            for y in range(100):
                taken = do(2, 8, x // 10 * 16 + x % 10, y // 10 * 16 + y % 10, 0, 0)
                right = do(39, 8, taken[1], 0, 0, taken[3])
                rest = (x - y) % 100
                self.assertEqual(right[1], rest // 10 * 16 + rest % 10)
                self.assertEqual(right[3] & 1, 1 if x < y else 0)


class OneDigit(Holding):
    def test_every_lower_byte(self):
        for op in (40, 41):
            for higher in HIGHER:
                for lower in range(256):
                    for flags in CARRIES:
                        self.hold(op, 16, higher * 256 + lower, 0, 0, flags)

    def test_z_s_p_o_stay(self):
        for op in (40, 41):
            for a in (0, 9, 10, 65535):
                for flags in CARRIES:
                    self.assertEqual(do(op, 16, a, 0, 0, flags)[3] & ~17, flags & ~17)

    def test_every_lower_byte_taken_apart_and_put_together(self):
        for op in (42, 43):
            for higher in HIGHER:
                for lower in range(256):
                    for b in (1, 2, 10, 16, 128, 255, 256 + 10, 65535):
                        for flags in (0, FULL):
                            self.hold(op, 16, higher * 256 + lower, b, 0, flags)

    def test_the_higher_byte_counts_nothing_in_42(self):
        for higher in HIGHER:
            self.assertEqual(do(42, 16, higher * 256 + 99, 10, 0, 0), [0, 9 * 256 + 9, 0, 4])

    def test_42_by_0_is_refused(self):
        for b in (0, 256, 512, 65280, 65536):
            for a in (0, 1, 255, 256, 65535):
                self.assertEqual(do(42, 16, a, b, 0, FULL), [-3])

    def test_43_by_0_leaves_the_lower_byte(self):
        for b in (0, 256, 65536):
            self.assertEqual(do(43, 16, 0x7F81, b, 0, 0), [0, 0x81, 0, 128 + 4])


if __name__ == "__main__":
    unittest.main()
