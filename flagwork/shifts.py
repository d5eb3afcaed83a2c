"""Shifts and turns: operations 13 to 21."""

from flagwork.bits import CARRY
from flagwork.bits import OVERFLOW
from flagwork.bits import answer
from flagwork.bits import bit
from flagwork.bits import carry_of
from flagwork.bits import greatest
from flagwork.bits import put
from flagwork.bits import show
from flagwork.bits import signed


def turned_left(number, size, n):
    """A number of so many bits, turned n places left within them."""
    places = n % size
    return ((number << places) | (number >> (size - places))) & greatest(size)


def turned_right(number, size, n):
    """A number of so many bits, turned n places right within them."""
    return turned_left(number, size, size - n % size)


def is_top_not_carry(width, number, flags):
    """Whether the number's highest bit and C of the flags word differ."""
    return bit(number, width - 1) != carry_of(flags)


def op_shl(width, a, b, n, flags):
    lo = (a << n) & greatest(width)
    after = show(flags, lo, width)
    if n < width:
        after = put(after, CARRY, bit(a, width - n) == 1)
    if n == 1:
        after = put(after, OVERFLOW, is_top_not_carry(width, lo, after))
    return answer(lo, 0, after)


def op_shr(width, a, b, n, flags):
    lo = a >> n
    after = show(flags, lo, width)
    if n < width:
        after = put(after, CARRY, bit(a, n - 1) == 1)
    if n == 1:
        after = put(after, OVERFLOW, bit(a, width - 1) == 1)
    return answer(lo, 0, after)


def op_sar(width, a, b, n, flags):
    number = signed(a, width)
    lo = (number >> n) & greatest(width)
    after = show(flags, lo, width)
    after = put(after, CARRY, bit(number, n - 1) == 1)
    if n == 1:
        after = put(after, OVERFLOW, False)
    return answer(lo, 0, after)


def op_rol(width, a, b, n, flags):
    lo = turned_left(a, width, n)
    after = put(flags, CARRY, bit(lo, 0) == 1)
    if n == 1:
        after = put(after, OVERFLOW, is_top_not_carry(width, lo, after))
    return answer(lo, 0, after)


def op_ror(width, a, b, n, flags):
    lo = turned_right(a, width, n)
    after = put(flags, CARRY, bit(lo, width - 1) == 1)
    if n == 1:
        after = put(after, OVERFLOW, bit(lo, width - 1) != bit(lo, width - 2))
    return answer(lo, 0, after)


def with_carry_above(width, a, flags):
    """a with C above it, as a number of w + 1 bits."""
    return (carry_of(flags) << width) + a


def op_rcl(width, a, b, n, flags):
    turned = turned_left(with_carry_above(width, a, flags), width + 1, n)
    lo = turned & greatest(width)
    after = put(flags, CARRY, bit(turned, width) == 1)
    if n == 1:
        after = put(after, OVERFLOW, is_top_not_carry(width, lo, after))
    return answer(lo, 0, after)


def op_rcr(width, a, b, n, flags):
    turned = turned_right(with_carry_above(width, a, flags), width + 1, n)
    lo = turned & greatest(width)
    after = put(flags, CARRY, bit(turned, width) == 1)
    if n == 1:
        # Of this turn O is told by a and C as they came.
        after = put(after, OVERFLOW, is_top_not_carry(width, a, flags))
    return answer(lo, 0, after)


def double_answer(width, a, lo, carry, n, flags):
    """What a double shift answers, its number and its carry being known."""
    after = show(flags, lo, width)
    after = put(after, CARRY, carry == 1)
    if n == 1:
        after = put(after, OVERFLOW, bit(lo, width - 1) != bit(a, width - 1))
    return answer(lo, 0, after)


def op_shld(width, a, b, n, flags):
    if n > width:
        return [-2]
    lo = ((a << n) + (b >> (width - n))) & greatest(width)
    return double_answer(width, a, lo, bit(a, width - n), n, flags)


def op_shrd(width, a, b, n, flags):
    if n > width:
        return [-2]
    lo = (((b << width) + a) >> n) & greatest(width)
    return double_answer(width, a, lo, bit(a, n - 1), n, flags)


SHIFT_STEPS = {
    13: op_shl,
    14: op_shr,
    15: op_sar,
    16: op_rol,
    17: op_ror,
    18: op_rcl,
    19: op_rcr,
    20: op_shld,
    21: op_shrd,
}


def places_to_go(op, width, b, c):
    """n: how many places the operation goes; only the double shifts are told by c."""
    told = c if op >= 20 else b
    if width == 64:
        return told % 64
    return told % 32


def run_shift(op, width, a, b, c, flags):
    """What one of these operations answers; a, b and c are below N."""
    n = places_to_go(op, width, b, c)
    if n == 0:
        return answer(a, 0, flags)
    step = SHIFT_STEPS[op]
    return step(width, a, b, n, flags)
