"""Operations on single bits, on all bits alike and on C: 8 to 12, 26 to 32 and 35 to 37."""

from flagwork.bits import CARRY
from flagwork.bits import OVERFLOW
from flagwork.bits import ZERO
from flagwork.bits import answer
from flagwork.bits import bit
from flagwork.bits import carry_of
from flagwork.bits import greatest
from flagwork.bits import put
from flagwork.bits import show


def bitwise_flags(width, lo, flags):
    """The flags word after an operation that goes bit by bit."""
    after = show(flags, lo, width)
    after = put(after, CARRY, False)
    return put(after, OVERFLOW, False)


def op_and(width, a, b, c, flags):
    return answer(a & b, 0, bitwise_flags(width, a & b, flags))


def op_or(width, a, b, c, flags):
    return answer(a | b, 0, bitwise_flags(width, a | b, flags))


def op_xor(width, a, b, c, flags):
    return answer(a ^ b, 0, bitwise_flags(width, a ^ b, flags))


def op_test(width, a, b, c, flags):
    return answer(a, 0, bitwise_flags(width, a & b, flags))


def op_not(width, a, b, c, flags):
    return answer(greatest(width) - a, 0, flags)


def chosen_bit(width, b):
    """The number whose one 1 is at place b mod w."""
    return 1 << (b % width)


def bit_flags(width, a, b, flags):
    """The flags word with C as the chosen bit of a."""
    return put(flags, CARRY, bit(a, b % width) == 1)


def op_bt(width, a, b, c, flags):
    return answer(a, 0, bit_flags(width, a, b, flags))


def op_bts(width, a, b, c, flags):
    return answer(a | chosen_bit(width, b), 0, bit_flags(width, a, b, flags))


def op_btr(width, a, b, c, flags):
    return answer(a & ~chosen_bit(width, b), 0, bit_flags(width, a, b, flags))


def op_btc(width, a, b, c, flags):
    return answer(a ^ chosen_bit(width, b), 0, bit_flags(width, a, b, flags))


def op_bsf(width, a, b, c, flags):
    if b == 0:
        return answer(a, 0, put(flags, ZERO, True))
    lowest = b & -b
    return answer(lowest.bit_length() - 1, 0, put(flags, ZERO, False))


def op_bsr(width, a, b, c, flags):
    if b == 0:
        return answer(a, 0, put(flags, ZERO, True))
    return answer(b.bit_length() - 1, 0, put(flags, ZERO, False))


def op_bswap(width, a, b, c, flags):
    lo = 0
    for place in range(0, width, 8):
        lo = (lo << 8) + ((a >> place) & 255)
    return answer(lo, 0, flags)


def op_clc(width, a, b, c, flags):
    return answer(a, 0, put(flags, CARRY, False))


def op_stc(width, a, b, c, flags):
    return answer(a, 0, put(flags, CARRY, True))


def op_cmc(width, a, b, c, flags):
    return answer(a, 0, put(flags, CARRY, carry_of(flags) == 0))


PLACE_STEPS = {
    8: op_and,
    9: op_or,
    10: op_xor,
    11: op_test,
    12: op_not,
    26: op_bt,
    27: op_bts,
    28: op_btr,
    29: op_btc,
    30: op_bsf,
    31: op_bsr,
    32: op_bswap,
    35: op_clc,
    36: op_stc,
    37: op_cmc,
}


def run_place(op, width, a, b, c, flags):
    """What one of these operations answers; a, b and c are below N."""
    step = PLACE_STEPS[op]
    return step(width, a, b, c, flags)
