"""26 to 32: single bits, the places of 1s, and bytes in the other order."""

import unittest

from flagwork.flags import do
from holding import FLAGS, Holding, edges
from told import FULL

WIDE = (16, 32, 64)


class SingleBits(Holding):
    def test_places_of_w_and_more_go_round(self):
        for op in (26, 27, 28, 29):
            for width in WIDE:
                for b in (0, 1, width - 1, width, width + 1, 2 * width + 3, 255, 2 ** width - 1):
                    for a in edges(width):
                        for flags in FLAGS:
                            got = self.hold(op, width, a, b, 9, flags)
                            self.assertEqual(got, do(op, width, a, b % width, 9, flags))

    def test_every_place(self):
        for width in WIDE:
            most = 2 ** width - 1
            for place in range(width):
                one = 2 ** place
                self.assertEqual(do(26, width, one, place, 0, 0), [0, one, 0, 1])
                self.assertEqual(do(26, width, most - one, place, 0, FULL), [0, most - one, 0, FULL - 1])
                self.assertEqual(do(27, width, 0, place, 0, 1), [0, one, 0, 0])
                self.assertEqual(do(27, width, most, place, 0, 0), [0, most, 0, 1])
                self.assertEqual(do(28, width, most, place, 0, 0), [0, most - one, 0, 1])
                self.assertEqual(do(28, width, 0, place, 0, 1), [0, 0, 0, 0])
                self.assertEqual(do(29, width, 0, place, 0, 1), [0, one, 0, 0])
                self.assertEqual(do(29, width, most, place, 0, 0), [0, most - one, 0, 1])


class PlacesOfOnes(Holding):
    def test_no_1_at_all(self):
        for op in (30, 31):
            for width in WIDE:
                for a in edges(width):
                    for flags in FLAGS:
                        self.assertEqual(do(op, width, a, 0, 0, flags), [0, a, 0, flags | 64])
                if width < 64:
                    self.assertEqual(do(op, width, 3, 2 ** width, 0, 0), [0, 3, 0, 64])

    def test_one_1_and_several(self):
        for width in WIDE:
            for low in range(width):
                for high in range(low, width):
                    b = 2 ** low | 2 ** high
                    self.assertEqual(do(30, width, 7, b, 0, FULL), [0, low, 0, FULL - 64])
                    self.assertEqual(do(31, width, 7, b, 0, 0), [0, high, 0, 0])

    def test_all_1s(self):
        for width in WIDE:
            self.assertEqual(do(30, width, 7, 2 ** width - 1, 0, 0), [0, 0, 0, 0])
            self.assertEqual(do(31, width, 7, 2 ** width - 1, 0, 0), [0, width - 1, 0, 0])


class BytesInTheOtherOrder(Holding):
    def test_at_both_widths(self):
        for width in (32, 64):
            for place in range(0, width, 8):
                for number in (1, 128, 255):
                    for flags in FLAGS:
                        want = number * 2 ** (width - 8 - place)
                        self.assertEqual(do(32, width, number * 2 ** place, 3, 5, flags), [0, want, 0, flags])

    def test_twice_is_what_was(self):
        for width in (32, 64):
            for a in edges(width) + [0x0123456789ABCDEF % 2 ** width]:
                turned = self.hold(32, width, a, 0, 0, 0)[1]
                self.assertEqual(do(32, width, turned, 0, 0, 0)[1], a)


if __name__ == "__main__":
    unittest.main()
