"""Shifts, turns and double shifts: how far they go, and which flags they give."""

import unittest

from flagwork.flags import do
from holding import FLAGS, Holding, edges, operands
from told import FULL, widths_of

C, P, A, Z, S, O = 1, 4, 16, 64, 128, 2048


def counts(width):
    return sorted({0, 1, 2, width - 1, width, width + 1, 9, 17, 18, 31, 32, 33, 34, 63, 64, 65, 255})


def in_the_lowest_bits(number, width):
    return number % (64 if width == 64 else 32)


class EveryCount(Holding):
    def test_each_count_as_told(self):
        for op in range(13, 22):
            for width in widths_of(op):
                for n in counts(width):
                    for a in operands(width):
                        for flags in FLAGS:
                            other = 0xC3A5963C5AE1780F
                            b, c = (n, other) if op < 20 else (other, n)
                            self.hold(op, width, a, b, c, flags)

    def test_every_count_of_a_byte(self):
        for op in range(13, 22):
            for width in widths_of(op):
                for n in range(256):
                    for a in edges(width):
                        b, c = (n, a) if op < 20 else (a, n)
                        self.hold(op, width, a, b, c, 0xA5A5A5A5)
                        self.hold(op, width, a, b, c, 0x5A5A5A5A)


class NoPlaceAtAll(Holding):
    def test_gives_no_flag(self):
        for op in range(13, 22):
            for width in widths_of(op):
                for n in (0, 64, 128, 2 ** 16 - 64) + ((32, 96) if width < 64 else ()):
                    for a in edges(width):
                        for flags in FLAGS:
                            self.assertEqual(do(op, width, a, n, n, flags), [0, a, 0, flags])


class Carry(unittest.TestCase):
    def test_of_13_and_14_stays_from_w_places_on(self):
        for op in (13, 14):
            for width, n in ((8, 8), (8, 9), (8, 31), (16, 16), (16, 17), (16, 31)):
                a = 2 ** width - 1
                self.assertEqual(do(op, width, a, n, 0, 0)[3], P + Z)
                self.assertEqual(do(op, width, a, n, 0, C + A)[3], C + P + A + Z)

    def test_of_13_and_14_is_given_at_one_place_less(self):
        for width in (8, 16, 32, 64):
            self.assertEqual(do(13, width, 2, width - 1, 0, 0)[3] & C, C)
            self.assertEqual(do(13, width, FULL - 2, width - 1, 0, C)[3] & C, 0)
            self.assertEqual(do(14, width, 2 ** (width - 2), width - 1, 0, 0)[3] & C, C)
            self.assertEqual(do(14, width, 2 ** (width - 1), width - 1, 0, C)[3] & C, 0)

    def test_of_15_goes_on_with_the_sign(self):
        for width, n in ((8, 8), (8, 9), (8, 31), (16, 16), (16, 20), (16, 31)):
            n_all = 2 ** width
            self.assertEqual(do(15, width, n_all // 2, n, 0, 0), [0, n_all - 1, 0, C + P + S])
            self.assertEqual(do(15, width, n_all // 2 - 1, n, 0, C), [0, 0, 0, P + Z])

    def test_turns_by_whole_rounds_still_give_it(self):
        for width, n in ((8, 8), (8, 16), (8, 24), (16, 16)):
            self.assertEqual(do(16, width, 1, n, 0, 0), [0, 1, 0, C])
            self.assertEqual(do(17, width, 1, n, 0, C), [0, 1, 0, 0])

    def test_turns_through_the_carry_by_whole_rounds_change_nothing(self):
        for op in (18, 19):
            for width, n in ((8, 9), (8, 18), (8, 27), (16, 17)):
                for a in edges(width):
                    for flags in FLAGS:
                        self.assertEqual(do(op, width, a, n, 0, flags), [0, a, 0, flags])


class Overflow(unittest.TestCase):
    def test_stays_but_at_one_place(self):
        for op in range(13, 22):
            for width in widths_of(op):
                for n in counts(width):
                    if in_the_lowest_bits(n, width) == 1 or n > 16 and op >= 20:
                        continue
                    for a in edges(width):
                        for flags in FLAGS:
                            self.assertEqual(do(op, width, a, n, n, flags)[3] & O, flags & O)

    def test_of_sar_is_0_at_one_place(self):
        for width in (8, 16, 32, 64):
            for a in edges(width):
                self.assertEqual(do(15, width, a, 1, 0, FULL)[3] & O, 0)


class StayingFlags(unittest.TestCase):
    def test_turns_leave_z_s_p_a(self):
        for op in (16, 17, 18, 19):
            for width in (8, 16, 32, 64):
                for n in counts(width):
                    for a in edges(width):
                        for flags in FLAGS:
                            after = do(op, width, a, n, 0, flags)[3]
                            self.assertEqual(after & ~(C + O), flags & ~(C + O))

    def test_shifts_leave_a(self):
        for op in (13, 14, 15, 20, 21):
            for width in widths_of(op):
                for n in (1, 2, 9, 15):
                    for a in edges(width):
                        self.assertEqual(do(op, width, a, n, n, FULL)[3] & A, A)
                        self.assertEqual(do(op, width, a, n, n, 0)[3] & A, 0)


if __name__ == "__main__":
    unittest.main()
