"""`byte`: the byte of every flags word, and of the flags words that operations leave."""

import unittest

from flagwork.flags import byte, do
from holding import FEW_FLAGS, FLAGS, MEANING, all_words, each_operation, edges, words_of_flags
from told import FULL, told_byte

C, P, A, Z, S, O = 1, 4, 16, 64, 128, 2048

# Worked out by hand: a flags word, and its byte.
BYTES = {
    0: 2,
    2: 2,
    FULL: 215,
    FULL - 2: 215,
    C: 3,
    P: 6,
    A: 18,
    Z: 66,
    S: 130,
    O: 2,
    8: 2,
    32: 2,
    256: 2,
    2 ** 31: 2,
    C + P + A + Z: 87,
    C + P + A + Z + S: 215,
    S + O: 130,
    A + Z + O: 82,
    FULL - C: 214,
    FULL - P: 211,
    FULL - A: 199,
    FULL - Z: 151,
    FULL - S: 87,
    FULL - O: 215,
    FULL - MEANING: 2,
}

# Worked out by hand: what do is asked, and the byte of the flags word that it leaves.
AFTER = [
    ((0, 8, 255, 1, 0, 0), 87),           # add: C, P, A and Z
    ((0, 16, 0x7FFF, 1, 0, 0), 150),      # add: P, A and S (and O)
    ((2, 32, 0, 1, 0, 0), 151),           # sub: C, P, A and S
    ((4, 64, 5, 5, 0, FULL), 70),         # cmp: P and Z
    ((6, 8, 255, 0, 0, C), 87),           # inc: P, A and Z; C stays
    ((8, 16, 240, 15, 0, C + A), 86),     # and: P and Z; A stays
    ((12, 8, 0, 0, 0, C + S), 131),       # not: all stay
    ((13, 8, 129, 1, 0, 0), 3),           # shl: C (and O)
    ((16, 8, 129, 8, 0, Z), 67),          # rol: C; Z stays
    ((18, 8, 128, 1, 0, 0), 3),           # rcl: C (and O)
    ((20, 16, 0x1235, 0x5678, 16, 0), 7),  # shld: C and P
    ((22, 8, 255, 255, 0, A), 19),        # mul: C (and O); A stays
    ((24, 8, 7, 2, 0, FULL), 215),        # div: all stay
    ((26, 16, 32768, 31, 0, 0), 3),       # bt: C
    ((30, 64, 5, 0, 0, C), 67),           # bsf: Z; C stays
    ((32, 32, 1, 0, 0, P), 6),            # bswap: all stay
    ((36, 16, 7, 0, 0, 0), 3),            # stc: C
    ((38, 8, 154, 0, 0, 0), 87),          # daa: C, P, A and Z
    ((40, 16, 10, 0, 0, 0), 19),          # aaa: C and A
    ((42, 16, 0x3F, 10, 0, 0), 6),        # aam: P
]


class TheByte(unittest.TestCase):
    def test_worked_out_by_hand(self):
        for flags, want in BYTES.items():
            self.assertEqual(byte(flags), [want], flags)

    def test_each_of_all_flags_with_all_other_bits_0_and_1(self):
        for flags in all_words():
            self.assertEqual(byte(flags), told_byte(flags), flags)

    def test_the_numbers_are_the_32_that_five_flags_make(self):
        numbers = {byte(flags)[0] for flags in words_of_flags()}
        self.assertEqual(numbers, {number for number in range(256) if number & 42 == 2})

    def test_overflow_changes_no_answer(self):
        for flags in words_of_flags():
            self.assertEqual(byte(flags ^ O), byte(flags), flags)

    def test_no_bit_that_means_nothing_changes_an_answer(self):
        for place in range(32):
            other = 2 ** place
            if other & MEANING:
                continue
            for flags in words_of_flags():
                self.assertEqual(byte(flags + other), byte(flags), (flags, other))
                self.assertEqual(byte(flags + FULL - MEANING - other), byte(flags), (flags, other))


class AfterAnOperation(unittest.TestCase):
    def test_worked_out_by_hand(self):
        for asked, want in AFTER:
            self.assertEqual(byte(do(*asked)[3]), [want], asked)

    def test_every_operation_at_every_width_that_it_has(self):
        for op, width in each_operation():
            for a in edges(width):
                for b in edges(width):
                    for flags in FEW_FLAGS:
                        got = do(op, width, a, b, 0, flags)
                        if len(got) == 4:
                            self.assertEqual(byte(got[3]), told_byte(got[3]), (op, width, a, b, flags))


class AnAnswer(unittest.TestCase):
    def test_is_a_list_of_one_whole_number(self):
        for flags in FLAGS:
            got = byte(flags)
            self.assertIs(type(got), list)
            self.assertEqual([type(number) for number in got], [int], flags)

    def test_is_a_new_list_each_time(self):
        for flags in FLAGS:
            first = byte(flags)
            kept = list(first)
            first[0] = 77
            first.append(5)
            self.assertEqual(byte(flags), kept)

    def test_hangs_on_nothing_asked_before(self):
        forward = [byte(flags) for flags in FLAGS]
        backward = [byte(flags) for flags in reversed(FLAGS)]
        self.assertEqual(forward, backward[::-1])


if __name__ == "__main__":
    unittest.main()
