"""Sums and differences: operations 0 to 7, 33 and 34."""

from flagwork.bits import CARRY
from flagwork.bits import HALF_CARRY
from flagwork.bits import OVERFLOW
from flagwork.bits import answer
from flagwork.bits import carry_of
from flagwork.bits import greatest
from flagwork.bits import put
from flagwork.bits import show
from flagwork.bits import signed


def total(width, a, b, k):
    """a + b + k modulo N."""
    return (a + b + k) & greatest(width)


def difference(width, a, b, k):
    """a - b - k modulo N."""
    return (a - b - k) & greatest(width)


def total_flags(width, a, b, k, flags):
    """The flags word after a + b + k."""
    lo = total(width, a, b, k)
    exact = signed(a, width) + signed(b, width) + k
    after = show(flags, lo, width)
    after = put(after, CARRY, a + b + k > greatest(width))
    after = put(after, HALF_CARRY, a % 16 + b % 16 + k >= 16)
    return put(after, OVERFLOW, exact != signed(lo, width))


def difference_flags(width, a, b, k, flags):
    """The flags word after a - b - k."""
    lo = difference(width, a, b, k)
    exact = signed(a, width) - signed(b, width) - k
    after = show(flags, lo, width)
    after = put(after, CARRY, a < b + k)
    after = put(after, HALF_CARRY, a % 16 < b % 16 + k)
    return put(after, OVERFLOW, exact != signed(lo, width))


def with_carry_of(flags, before):
    """The flags word with C as it was before."""
    return put(flags, CARRY, carry_of(before) == 1)


def op_add(width, a, b, c, flags):
    return answer(total(width, a, b, 0), 0, total_flags(width, a, b, 0, flags))


def op_adc(width, a, b, c, flags):
    k = carry_of(flags)
    return answer(total(width, a, b, k), 0, total_flags(width, a, b, k, flags))


def op_sub(width, a, b, c, flags):
    return answer(difference(width, a, b, 0), 0, difference_flags(width, a, b, 0, flags))


def op_sbb(width, a, b, c, flags):
    k = carry_of(flags)
    return answer(difference(width, a, b, k), 0, difference_flags(width, a, b, k, flags))


def op_cmp(width, a, b, c, flags):
    return answer(a, 0, difference_flags(width, a, b, 0, flags))


def op_neg(width, a, b, c, flags):
    return answer(difference(width, 0, a, 0), 0, difference_flags(width, 0, a, 0, flags))


def op_inc(width, a, b, c, flags):
    after = total_flags(width, a, 1, 0, flags)
    return answer(total(width, a, 1, 0), 0, with_carry_of(after, flags))


def op_dec(width, a, b, c, flags):
    after = difference_flags(width, a, 1, 0, flags)
    return answer(difference(width, a, 1, 0), 0, with_carry_of(after, flags))


def op_xadd(width, a, b, c, flags):
    return answer(total(width, a, b, 0), a, total_flags(width, a, b, 0, flags))


def op_cmpxchg(width, a, b, c, flags):
    lo = b if c == a else a
    return answer(lo, a, difference_flags(width, c, a, 0, flags))


SUM_STEPS = {
    0: op_add,
    1: op_adc,
    2: op_sub,
    3: op_sbb,
    4: op_cmp,
    5: op_neg,
    6: op_inc,
    7: op_dec,
    33: op_xadd,
    34: op_cmpxchg,
}


def run_sum(op, width, a, b, c, flags):
    """What one of these operations answers; a, b and c are below N."""
    step = SUM_STEPS[op]
    return step(width, a, b, c, flags)
