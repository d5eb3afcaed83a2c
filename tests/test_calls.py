"""The four calls mixed, in any order: each answers as it does by itself."""

import importlib
import random
import sys
import unittest

from flagwork import flags as program
from holding import FEW_FLAGS, each_operation
from told import FULL, GREATEST, told, told_byte, told_unbyte, told_when

TOLD = {"do": told, "when": told_when, "byte": told_byte, "unbyte": told_unbyte}


def mixed_calls():
    """Calls of all four, answered and refused, each the name and what is handed in."""
    calls = [("do", (op, width, 0x9C, 0x13, 0x81, 0xA5A5A5A5)) for op, width in each_operation()]
    calls += [("do", asked) for asked in (
        (44, 8, 1, 1, 0, 0), (255, 255, GREATEST, GREATEST, GREATEST, FULL), (0, 9, 1, 1, 0, FULL),
        (20, 16, 1, 1, 17, 0), (24, 8, 7, 0, 0, 0), (25, 64, 0, GREATEST, 2 ** 63, 0), (42, 16, 1, 256, 0, 0),
    )]
    for flags in FEW_FLAGS:
        calls += [("when", (flags, cond)) for cond in (0, 3, 6, 9, 12, 15, 16, 255)]
        calls += [("byte", (flags,))]
        calls += [("unbyte", (flags, b)) for b in (0, 2, 85, 170, 255)]
    return calls


def some_of_each(amount):
    """About so many of the mixed calls of each name."""
    some = []
    for name in TOLD:
        calls = [call for call in mixed_calls() if call[0] == name]
        some += calls[::max(1, len(calls) // amount)]
    return some


def asked_of(module, call):
    name, asked = call
    return getattr(module, name)(*asked)


def by_itself(call):
    """What a call answers in a package that was never asked anything before."""
    kept = {name: sys.modules.pop(name) for name in list(sys.modules) if name.split(".")[0] == "flagwork"}
    try:
        return asked_of(importlib.import_module("flagwork.flags"), call)
    finally:
        sys.modules.update(kept)


def all_that_is_kept():
    """Every value at the top of the package's files, as a text."""
    return {
        (module.__name__, name): repr(kept)
        for module in list(sys.modules.values()) if module.__name__.split(".")[0] == "flagwork"
        for name, kept in vars(module).items() if not name.startswith("__")
    }


class MixedCalls(unittest.TestCase):
    def hold(self, calls):
        for call in calls:
            name, asked = call
            got = asked_of(program, call)
            self.assertEqual(got, TOLD[name](*asked), call)
            # Whoever asks may do with an answer as he likes.
            got.append(1)
            got[0] = 77

    def test_all_four_are_among_them(self):
        calls = mixed_calls()
        self.assertEqual({name for name, asked in calls}, set(TOLD))
        firsts = {TOLD[name](*asked)[0] for name, asked in calls if name in ("do", "when")}
        self.assertEqual(firsts, {0, 1, -1, -2, -3})

    def test_one_after_another(self):
        calls = mixed_calls()
        self.hold(calls)
        self.hold(calls[::-1])
        self.hold([call for call in calls for _ in range(2)])

    def test_in_any_order(self):
        order = random.Random(9)
        calls = mixed_calls()
        for _ in range(20):
            order.shuffle(calls)
            self.hold(calls)

    def test_each_pair_of_a_few_in_both_orders(self):
        few = some_of_each(8)
        for first in few:
            for second in few:
                self.hold([first, second])

    def test_each_as_in_a_package_never_asked_before(self):
        for call in some_of_each(40):
            self.assertEqual(asked_of(program, call), by_itself(call), call)

    def test_nothing_is_kept(self):
        before = all_that_is_kept()
        self.assertIn(("flagwork.flags", "unbyte"), before)
        self.hold(mixed_calls())
        self.assertEqual(all_that_is_kept(), before)


if __name__ == "__main__":
    unittest.main()
