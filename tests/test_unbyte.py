"""`unbyte`: every byte put into every flags word, and what `byte` tells of it then."""

import unittest

from flagwork.flags import byte, do, unbyte, when
from holding import FEW_FLAGS, FLAGS, MEANING, all_words, each_operation, edges
from told import FULL, flag, row, told_unbyte

C, P, A, Z, S, O = 1, 4, 16, 64, 128, 2048
# The byte's bits that are nothing, and those that are flags.
NOTHING = 2 + 8 + 32
FIVE = C + P + A + Z + S

# Worked out by hand: a flags word, a byte, and the flags word with the byte put in.
PUT_IN = [
    (0, 0, 0),
    (0, 255, 213),
    (0, 2, 0),
    (0, 42, 0),
    (0, 213, 213),
    (FULL, 0, 4294967082),
    (FULL, 255, FULL),
    (FULL, 42, 4294967082),
    (FULL, 213, FULL),
    (FULL, 1, 4294967083),
    (42, 0, 42),
    (42, 255, 255),
    (O, 255, O + 213),
    (O + S + C, 0, O),
    (O + S + C, 64 + 16 + 2, O + Z + A),
    (C + P + A + Z + S, 4, P),
    (0, 1, C),
    (0, 4, P),
    (0, 16, A),
    (0, 64, Z),
    (0, 128, S),
    (256, 128, 256 + S),
    (2 ** 31 + Z, 1, 2 ** 31 + C),
]


class WhatTheseTestsWalk(unittest.TestCase):
    def test_all_words_are_all_64_twice(self):
        words = all_words()
        self.assertEqual((len(words), len(set(words))), (128, 128))
        self.assertEqual({word & MEANING for word in words}, {word & MEANING for word in range(4096)})
        self.assertEqual({word & ~MEANING for word in words}, {0, FULL - MEANING})


class TheFlagsWordWithAByte(unittest.TestCase):
    def test_worked_out_by_hand(self):
        for flags, b, want in PUT_IN:
            self.assertEqual(unbyte(flags, b), [want], (flags, b))

    def test_every_byte_into_each_of_all_flags(self):
        for flags in all_words():
            for b in range(256):
                if unbyte(flags, b) != told_unbyte(flags, b):
                    self.fail("unbyte(%d, %d) answers %r" % (flags, b, unbyte(flags, b)))

    def test_five_flags_are_as_the_bytes_bits_have_them(self):
        for flags in FLAGS:
            for b in range(256):
                after = unbyte(flags, b)[0]
                signs = row(b, 8)
                given = {"S": signs[0], "Z": signs[1], "A": signs[3], "P": signs[5], "C": signs[7]}
                for name, sign in given.items():
                    self.assertEqual(flag(after, name), int(sign), (flags, b, name))

    def test_all_other_bits_stay_as_they_were(self):
        for place in range(32):
            if 2 ** place in (C, P, A, Z, S):
                continue
            for b in range(256):
                self.assertEqual(unbyte(2 ** place, b)[0] - unbyte(0, b)[0], 2 ** place, (place, b))
                self.assertEqual(unbyte(FULL, b)[0] - unbyte(FULL - 2 ** place, b)[0], 2 ** place, (place, b))

    def test_the_bytes_other_bits_change_no_answer(self):
        for flags in all_words():
            for b in range(256):
                if b & NOTHING == 0:
                    want = unbyte(flags, b)
                    for others in (2, 8, 32, 2 + 8, 2 + 32, 8 + 32, NOTHING):
                        self.assertEqual(unbyte(flags, b + others), want, (flags, b, others))


class WithByte(unittest.TestCase):
    def test_a_flags_words_own_byte_changes_nothing(self):
        for flags in all_words() + list(FLAGS) + [2 ** place for place in range(32)]:
            self.assertEqual(unbyte(flags, byte(flags)[0]), [flags], flags)

    def test_byte_tells_what_was_put_in(self):
        for flags in all_words():
            for b in range(256):
                got = byte(unbyte(flags, b)[0])
                if got != [b - (b & NOTHING) + 2]:
                    self.fail("byte of unbyte(%d, %d) answers %r" % (flags, b, got))

    def test_the_last_one_put_in_is_what_counts(self):
        for flags in FLAGS:
            for b in (0, 1, 42, 85, 170, 213, 255):
                for later in (0, 1, 42, 85, 170, 213, 255):
                    self.assertEqual(unbyte(unbyte(flags, b)[0], later), unbyte(flags, later))


class WithTheOtherCalls(unittest.TestCase):
    def test_flags_kept_as_a_byte_come_back_around_an_operation(self):
        for op, width in each_operation():
            for a in edges(width):
                for flags in FEW_FLAGS:
                    got = do(op, width, a, 3, 1, flags)
                    if len(got) == 4:
                        after = unbyte(got[3], byte(flags)[0])[0]
                        self.assertEqual(after & FIVE, flags & FIVE, (op, width, a, flags))
                        self.assertEqual(after & ~FIVE, got[3] & ~FIVE, (op, width, a, flags))

    def test_conditions_of_what_was_put_in(self):
        self.assertEqual([when(unbyte(0, 1)[0], cond) for cond in (2, 4, 6, 8, 10)], [[1], [0], [1], [0], [0]])
        self.assertEqual([when(unbyte(0, 64)[0], cond) for cond in (2, 4, 6, 8, 10)], [[0], [1], [1], [0], [0]])
        self.assertEqual([when(unbyte(0, 128)[0], cond) for cond in (8, 12, 14)], [[1], [1], [1]])
        self.assertEqual([when(unbyte(O, 128)[0], cond) for cond in (0, 8, 12, 14)], [[1], [1], [0], [0]])
        self.assertEqual([when(unbyte(FULL, 0)[0], cond) for cond in (0, 2, 4, 8, 10)], [[1], [0], [0], [0], [0]])

    def test_an_operation_takes_up_the_carry_that_was_put_in(self):
        self.assertEqual(do(1, 8, 1, 1, 0, unbyte(0, 1)[0])[1], 3)
        self.assertEqual(do(1, 8, 1, 1, 0, unbyte(FULL, 254)[0])[1], 2)


class AnAnswer(unittest.TestCase):
    def test_is_a_list_of_one_whole_number(self):
        for flags in FLAGS:
            for b in range(256):
                got = unbyte(flags, b)
                self.assertIs(type(got), list)
                self.assertEqual([type(number) for number in got], [int], (flags, b))

    def test_is_a_new_list_each_time(self):
        for flags in FLAGS:
            first = unbyte(flags, 85)
            kept = list(first)
            first[0] = 77
            first.append(5)
            self.assertEqual(unbyte(flags, 85), kept)


if __name__ == "__main__":
    unittest.main()
