"""`when`: each condition of every flags word, and what it says after cmp."""

import unittest

from flagwork.flags import do, when
from holding import FLAGS, MEANING, all_words, operands, words_of_flags
from told import FULL, WIDTHS, sign_read, told_when

C, P, A, Z, S, O = 1, 4, 16, 64, 128, 2048

# Worked out by hand: of each flags word, the even conditions that hold.
HELD = {
    0: (),
    C: (2, 6),
    P: (10,),
    A: (),
    Z: (4, 6, 14),
    S: (8, 12, 14),
    O: (0, 12, 14),
    C + Z: (2, 4, 6, 14),
    C + S: (2, 6, 8, 12, 14),
    C + O: (0, 2, 6, 12, 14),
    S + O: (0, 8),
    Z + S: (4, 6, 8, 12, 14),
    Z + O: (0, 4, 6, 12, 14),
    Z + S + O: (0, 4, 6, 8, 14),
    C + S + O: (0, 2, 6, 8),
    C + P + A + Z + S + O: (0, 2, 4, 6, 8, 10, 14),
}

# After cmp: what each condition says of a and b, and of [a] and [b].
SAYS_PLAIN = {2: "below", 4: "equal", 6: "at most", 3: "not below", 5: "not equal", 7: "not at most"}
SAYS_SIGNED = {12: "below", 14: "at most", 13: "not below", 15: "not at most"}


def is_said(word, x, y):
    if word.startswith("not "):
        return not is_said(word[4:], x, y)
    return {"below": x < y, "equal": x == y, "at most": x <= y}[word]


class Conditions(unittest.TestCase):
    def test_worked_out_by_hand(self):
        for flags, held in HELD.items():
            for cond in range(16):
                even = cond - cond % 2
                want = [1] if (even in held) == (cond == even) else [0]
                for others in (0, FULL - MEANING):
                    self.assertEqual(when(flags + others, cond), want, (flags, others, cond))

    def test_each_of_all_flags_with_all_other_bits_0_and_1(self):
        for flags in all_words():
            for cond in range(16):
                self.assertEqual(when(flags, cond), told_when(flags, cond), (flags, cond))

    def test_half_carry_changes_no_answer(self):
        for flags in words_of_flags():
            for cond in range(16):
                self.assertEqual(when(flags ^ A, cond), when(flags, cond), (flags, cond))

    def test_no_bit_that_means_nothing_changes_an_answer(self):
        for place in range(32):
            other = 2 ** place
            if other & MEANING:
                continue
            for flags in words_of_flags():
                for cond in range(16):
                    self.assertEqual(when(flags + other, cond), when(flags, cond), (flags, other, cond))

    def test_an_odd_one_is_the_even_one_before_it_turned_round(self):
        for flags in all_words():
            for cond in range(0, 16, 2):
                pair = [when(flags, cond), when(flags, cond + 1)]
                self.assertEqual(sorted(pair), [[0], [1]], (flags, cond))


class NoSuchCondition(unittest.TestCase):
    def test_above_15_is_refused(self):
        for cond in range(16, 256):
            for flags in FLAGS:
                self.assertEqual(when(flags, cond), [-1], (flags, cond))

    def test_15_and_below_is_not(self):
        for cond in range(16):
            for flags in FLAGS:
                self.assertIn(when(flags, cond), ([0], [1]), (flags, cond))


class AfterCmp(unittest.TestCase):
    def hold(self, width, a, b, flags):
        """Holds every condition that compares to how a and b, [a] and [b] do compare."""
        n = 2 ** width
        x, y = a % n, b % n
        after = do(4, width, a, b, 0, flags)[3]
        for cond, word in SAYS_PLAIN.items():
            want = [1] if is_said(word, x, y) else [0]
            self.assertEqual(when(after, cond), want, (width, a, b, flags, cond))
        x, y = sign_read(x, width), sign_read(y, width)
        for cond, word in SAYS_SIGNED.items():
            want = [1] if is_said(word, x, y) else [0]
            self.assertEqual(when(after, cond), want, (width, a, b, flags, cond))

    def test_every_pair_of_operands_at_every_width(self):
        for width in WIDTHS:
            for a in operands(width):
                for b in operands(width):
                    for flags in (0, FULL):
                        self.hold(width, a, b, flags)

    def test_every_pair_of_bytes(self):
        for a in range(256):
            for b in range(256):
                self.hold(8, a, b, FULL if b % 3 == 0 else 0)

    def test_worked_out_by_hand(self):
        # 200 is above 100 as it stands, but [200] is -56, below [100].
        after = do(4, 8, 200, 100, 0, 0)[3]
        self.assertEqual([when(after, cond) for cond in (2, 4, 6, 12, 14)], [[0], [0], [0], [1], [1]])
        after = do(4, 8, 100, 200, 0, 0)[3]
        self.assertEqual([when(after, cond) for cond in (2, 4, 6, 12, 14)], [[1], [0], [1], [0], [0]])
        after = do(4, 64, 2 ** 63, 2 ** 63, 0, FULL)[3]
        self.assertEqual([when(after, cond) for cond in (2, 4, 6, 12, 14)], [[0], [1], [1], [0], [1]])


class AnAnswer(unittest.TestCase):
    def test_is_a_list_of_one_whole_number(self):
        for cond in range(256):
            for flags in FLAGS:
                got = when(flags, cond)
                self.assertIs(type(got), list)
                self.assertEqual([type(number) for number in got], [int], (flags, cond))

    def test_is_a_new_list_each_time(self):
        for flags, cond in ((0, 0), (2048, 0), (0, 16)):
            first = when(flags, cond)
            kept = list(first)
            first[0] = 77
            first.append(5)
            self.assertEqual(when(flags, cond), kept)

    def test_hangs_on_nothing_asked_before(self):
        asked = [(flags, cond) for flags in FLAGS for cond in range(18)]
        forward = [when(*one) for one in asked]
        backward = [when(*one) for one in reversed(asked)]
        self.assertEqual(forward, backward[::-1])


if __name__ == "__main__":
    unittest.main()
