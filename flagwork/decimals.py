"""Decimal digits put right: operations 38 to 43."""

from flagwork.bits import CARRY
from flagwork.bits import HALF_CARRY
from flagwork.bits import answer
from flagwork.bits import carry_of
from flagwork.bits import put
from flagwork.bits import show


def is_low_digit_off(a, flags):
    """Whether the lowest digit of a is to be put right."""
    return a % 16 > 9 or (flags & HALF_CARRY) != 0


def is_high_digit_off(a, flags):
    """Whether the higher digit of a, of two in a byte, is to be put right."""
    return a > 153 or carry_of(flags) == 1


def amount_off(low, high):
    """What two digits are to be put right by."""
    return (6 if low else 0) + (96 if high else 0)


def put_half_and_carry(flags, half, carry):
    """The flags word with A and C given."""
    return put(put(flags, HALF_CARRY, half), CARRY, carry)


def op_daa(width, a, b, c, flags):
    low = is_low_digit_off(a, flags)
    high = is_high_digit_off(a, flags)
    lo = (a + amount_off(low, high)) % 256
    return answer(lo, 0, put_half_and_carry(show(flags, lo, 8), low, high))


def op_das(width, a, b, c, flags):
    low = is_low_digit_off(a, flags)
    high = is_high_digit_off(a, flags)
    lo = (a - amount_off(low, high)) % 256
    carry = high or (low and a < 6)
    return answer(lo, 0, put_half_and_carry(show(flags, lo, 8), low, carry))


def one_digit_answer(a, amount, flags):
    """What 40 and 41 answer: the amount goes on only where the lowest digit is off."""
    off = is_low_digit_off(a, flags)
    number = (a + amount) % 65536 if off else a
    lo = number // 256 * 256 + number % 16
    return answer(lo, 0, put_half_and_carry(flags, off, off))


def op_aaa(width, a, b, c, flags):
    return one_digit_answer(a, 262, flags)


def op_aas(width, a, b, c, flags):
    return one_digit_answer(a, -262, flags)


def op_aam(width, a, b, c, flags):
    divisor = b % 256
    if divisor == 0:
        return [-3]
    low = a % 256
    rest = low % divisor
    return answer(low // divisor * 256 + rest, 0, show(flags, rest, 8))


def op_aad(width, a, b, c, flags):
    lo = (a % 256 + a // 256 * (b % 256)) % 256
    return answer(lo, 0, show(flags, lo, 8))


DECIMAL_STEPS = {
    38: op_daa,
    39: op_das,
    40: op_aaa,
    41: op_aas,
    42: op_aam,
    43: op_aad,
}


def run_decimal(op, width, a, b, c, flags):
    """What one of these operations answers; a, b and c are below N."""
    step = DECIMAL_STEPS[op]
    return step(width, a, b, c, flags)
