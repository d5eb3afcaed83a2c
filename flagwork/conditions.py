"""Conditions 0 to 15: what a flags word says."""

from flagwork.bits import CARRY
from flagwork.bits import OVERFLOW
from flagwork.bits import PARITY
from flagwork.bits import SIGN
from flagwork.bits import ZERO


def has(flags, mark):
    """Whether the bit `mark` of the flags word is 1."""
    return flags & mark == mark


def on_overflow(flags):
    return has(flags, OVERFLOW)


def on_carry(flags):
    return has(flags, CARRY)


def on_zero(flags):
    return has(flags, ZERO)


def on_carry_or_zero(flags):
    return has(flags, CARRY) or has(flags, ZERO)


def on_sign(flags):
    return has(flags, SIGN)


def on_parity(flags):
    return has(flags, PARITY)


def on_sign_not_overflow(flags):
    return has(flags, SIGN) != has(flags, OVERFLOW)


def on_zero_or_sign_not_overflow(flags):
    return has(flags, ZERO) or on_sign_not_overflow(flags)


EVEN_CONDITIONS = {
    0: on_overflow,
    2: on_carry,
    4: on_zero,
    6: on_carry_or_zero,
    8: on_sign,
    10: on_parity,
    12: on_sign_not_overflow,
    14: on_zero_or_sign_not_overflow,
}


def is_met(flags, cond):
    """Whether a condition from 0 to 15 holds of the flags word; an odd one is the even one below it turned round."""
    even = EVEN_CONDITIONS[cond - cond % 2]
    return even(flags) != (cond % 2 == 1)
