"""Every operation at every width that it has: lo, hi and the whole flags word."""

import random
import unittest

from flagwork.flags import do
from holding import FEW_FLAGS, FLAGS, MEANING, Holding, each_operation, edges, operands
from told import FULL, GREATEST, PLACES

# The flags that each operation may give; a flag beside them is never touched.
GIVEN = {
    0: "CPAZSO", 1: "CPAZSO", 2: "CPAZSO", 3: "CPAZSO", 4: "CPAZSO", 5: "CPAZSO",
    6: "PAZSO", 7: "PAZSO", 8: "CPZSO", 9: "CPZSO", 10: "CPZSO", 11: "CPZSO", 12: "",
    13: "CPZSO", 14: "CPZSO", 15: "CPZSO", 16: "CO", 17: "CO", 18: "CO", 19: "CO",
    20: "CPZSO", 21: "CPZSO", 22: "CO", 23: "CO", 24: "", 25: "",
    26: "C", 27: "C", 28: "C", 29: "C", 30: "Z", 31: "Z", 32: "",
    33: "CPAZSO", 34: "CPAZSO", 35: "C", 36: "C", 37: "C",
    38: "CPAZS", 39: "CPAZS", 40: "CA", 41: "CA", 42: "PZS", 43: "PZS",
}


class EveryOperation(Holding):
    def test_every_pair_of_operands(self):
        for op, width in each_operation():
            for a in operands(width):
                for place, b in enumerate(operands(width)):
                    c = operands(width)[place % 5]
                    for flags in FEW_FLAGS:
                        self.hold(op, width, a, b, c, flags)

    def test_every_triple_of_edges_with_every_flags_word(self):
        for op, width in each_operation():
            for a in edges(width):
                for b in edges(width):
                    for c in edges(width):
                        for flags in FLAGS:
                            self.hold(op, width, a, b, c, flags)

    def test_numbers_from_anywhere(self):
        numbers = random.Random(20)
        for op, width in each_operation():
            for _ in range(600):
                a, b, c = (numbers.getrandbits(numbers.choice((4, 8, 16, 32, 64))) for _ in "abc")
                self.hold(op, width, a, b, c, numbers.getrandbits(32))

    def test_every_byte_of_8_bits(self):
        for op in (0, 1, 2, 3, 4, 5, 6, 7, 8, 9, 10, 11, 12, 22, 23, 33, 34):
            for a in range(256):
                for b in (0, 1, 15, 127, 128, 200, 255):
                    for flags in (0, 1):
                        self.hold(op, 8, a, b, b, flags)


class OnlyTheLowestBitsCount(Holding):
    def test_operands_of_n_and_more_answer_as_their_lowest_bits(self):
        for op, width in each_operation():
            n = 2 ** width
            if width == 64:
                continue
            above = GREATEST // n * n
            for a in edges(width):
                for b in edges(width):
                    for c in edges(width):
                        plain = do(op, width, a, b, c, 0xA5A5A5A5)
                        self.assertEqual(do(op, width, a + n, b + n, c + n, 0xA5A5A5A5), plain)
                        self.assertEqual(do(op, width, a + above, b + above, c + above, 0xA5A5A5A5), plain)


class FlagsThatAreNotGivenStay(Holding):
    def test_what_an_operation_never_gives_stays_bit_by_bit(self):
        for op, width in each_operation():
            may_change = sum(2 ** PLACES[name] for name in GIVEN[op])
            for a in edges(width):
                for b in edges(width):
                    for c in (0, 1, b):
                        for flags in FLAGS:
                            got = do(op, width, a, b, c, flags)
                            if len(got) == 4 and (got[3] ^ flags) & ~may_change:
                                self.fail("op %d of %d bits: %r from %d" % (op, width, got, flags))

    def test_bits_that_mean_nothing_stay(self):
        for op, width in each_operation():
            for place in range(32):
                flags = 2 ** place
                if flags & MEANING:
                    continue
                self.assertEqual(do(op, width, 3, 1, 0, flags)[3] & ~MEANING, flags)
                self.assertEqual(do(op, width, 3, 1, 0, FULL - flags)[3] | MEANING, FULL - flags)


class AnAnswer(unittest.TestCase):
    def test_is_a_list_of_whole_numbers(self):
        for op, width in each_operation():
            for b in (0, 1, 2):
                for flags in (0, FULL):
                    got = do(op, width, 1, b, 1, flags)
                    self.assertIs(type(got), list)
                    self.assertEqual([type(number) for number in got], [int] * len(got))
                    self.assertIn(len(got), (1, 4))

    def test_is_a_new_list_each_time(self):
        for asked in ((0, 8, 1, 2, 0, 0), (44, 8, 1, 2, 0, 0), (20, 16, 1, 1, 17, 0), (24, 8, 1, 0, 0, 0)):
            first = do(*asked)
            kept = list(first)
            first.append(5)
            first[0] = 77
            self.assertEqual(do(*asked), kept)

    def test_hangs_on_nothing_asked_before(self):
        asked = [(op, width, 77, 5, 3, 0xA5A5A5A5) for op, width in each_operation()]
        forward = [do(*one) for one in asked]
        backward = [do(*one) for one in reversed(asked)]
        self.assertEqual(forward, backward[::-1])


if __name__ == "__main__":
    unittest.main()
