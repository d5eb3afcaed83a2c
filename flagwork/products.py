"""Products and quotients: operations 22 to 25."""

from flagwork.bits import CARRY
from flagwork.bits import OVERFLOW
from flagwork.bits import answer
from flagwork.bits import fits_signed
from flagwork.bits import greatest
from flagwork.bits import put
from flagwork.bits import signed


def product_answer(width, product, is_long, flags):
    """A product in its two halves, with C and O telling whether the lower one is too short for it."""
    lo = product & greatest(width)
    hi = (product >> width) & greatest(width)
    after = put(flags, CARRY, is_long)
    after = put(after, OVERFLOW, is_long)
    return answer(lo, hi, after)


def op_mul(width, a, b, c, flags):
    product = a * b
    return product_answer(width, product, product > greatest(width), flags)


def op_imul(width, a, b, c, flags):
    product = signed(a, width) * signed(b, width)
    return product_answer(width, product, not fits_signed(product, width), flags)


def op_div(width, a, b, c, flags):
    # With b at 0 every c is b or more, so a division by 0 is refused here too.
    if c >= b:
        return [-3]
    dividend = (c << width) + a
    return answer(dividend // b, dividend % b, flags)


def cut_quotient(dividend, divisor):
    """The quotient cut toward 0, which // alone would round down."""
    quotient = abs(dividend) // abs(divisor)
    if (dividend < 0) != (divisor < 0):
        return -quotient
    return quotient


def op_idiv(width, a, b, c, flags):
    if b == 0:
        return [-3]
    dividend = signed((c << width) + a, 2 * width)
    divisor = signed(b, width)
    quotient = cut_quotient(dividend, divisor)
    if not fits_signed(quotient, width):
        return [-3]
    rest = dividend - quotient * divisor
    return answer(quotient & greatest(width), rest & greatest(width), flags)


PRODUCT_STEPS = {
    22: op_mul,
    23: op_imul,
    24: op_div,
    25: op_idiv,
}


def run_product(op, width, a, b, c, flags):
    """What one of these operations answers; a, b and c are below N."""
    step = PRODUCT_STEPS[op]
    return step(width, a, b, c, flags)
