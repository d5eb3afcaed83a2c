"""What is refused, by its number alone, and which of two is answered."""

import unittest

from flagwork.flags import do
from holding import FLAGS
from told import FULL, GREATEST, widths_of


class NoSuchOperationOrWidth(unittest.TestCase):
    def test_no_operation_from_44_on(self):
        for op in range(44, 256):
            for width in range(256):
                self.assertEqual(do(op, width, 1, 1, 0, 0), [-1])

    def test_every_width_that_an_operation_lacks(self):
        for op in range(44):
            for width in range(256):
                got = do(op, width, 1, 1, 0, FULL)
                if width in widths_of(op):
                    self.assertEqual(got[0], 0)
                    self.assertEqual(len(got), 4)
                else:
                    self.assertEqual(got, [-1])

    def test_is_answered_before_any_other(self):
        self.assertEqual(do(20, 8, 1, 1, 17, 0), [-1])
        self.assertEqual(do(21, 8, 1, 1, 31, 0), [-1])
        self.assertEqual(do(20, 12, 1, 1, 17, 0), [-1])
        self.assertEqual(do(24, 0, 1, 0, 0, 0), [-1])
        self.assertEqual(do(24, 255, 1, 0, 1, 0), [-1])
        self.assertEqual(do(25, 24, 1, 0, 1, 0), [-1])
        self.assertEqual(do(42, 8, 1, 0, 0, 0), [-1])
        self.assertEqual(do(42, 32, 1, 0, 0, 0), [-1])
        self.assertEqual(do(255, 255, GREATEST, 0, GREATEST, FULL), [-1])


class DoubleShiftByMoreThanW(unittest.TestCase):
    def test_of_16_bits(self):
        for op in (20, 21):
            for c in range(256):
                for flags in FLAGS:
                    got = do(op, 16, 0x1234, 0x5678, c, flags)
                    if c % 32 > 16:
                        self.assertEqual(got, [-2])
                    else:
                        self.assertEqual(got[0], 0)

    def test_never_of_32_or_64_bits(self):
        for op in (20, 21):
            for width in (32, 64):
                for c in range(256):
                    self.assertEqual(do(op, width, 0x1234, 0x5678, c, 0)[0], 0)

    def test_b_does_not_count(self):
        for op in (20, 21):
            for b in (17, 31, 65535):
                self.assertEqual(do(op, 16, 1, b, 16, 0)[0], 0)
                self.assertEqual(do(op, 16, 1, b, 17, 0), [-2])


if __name__ == "__main__":
    unittest.main()
