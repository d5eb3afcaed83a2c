"""The calls of Flagwork."""

from flagwork.bits import IN_BYTE
from flagwork.bits import greatest
from flagwork.conditions import is_met
from flagwork.decimals import run_decimal
from flagwork.places import run_place
from flagwork.products import run_product
from flagwork.shifts import run_shift
from flagwork.sums import run_sum


def widths_of(op):
    """The widths that an operation has; none where there is no such operation."""
    if op > 43:
        return ()
    if op >= 40:
        return (16,)
    if op >= 38:
        return (8,)
    if op == 32:
        return (32, 64)
    if 20 <= op <= 21 or 26 <= op <= 31:
        return (16, 32, 64)
    return (8, 16, 32, 64)


def run(op, width, a, b, c, flags):
    """What an operation answers at a width that it has; a, b and c are below N."""
    if op <= 7 or 33 <= op <= 34:
        return run_sum(op, width, a, b, c, flags)
    if 13 <= op <= 21:
        return run_shift(op, width, a, b, c, flags)
    if 22 <= op <= 25:
        return run_product(op, width, a, b, c, flags)
    if op >= 38:
        return run_decimal(op, width, a, b, c, flags)
    return run_place(op, width, a, b, c, flags)


def do(op, width, a, b, c, flags):
    """[0, lo, hi, the flags word then], or [-1], [-2] or [-3] where the operation is refused."""
    if width not in widths_of(op):
        return [-1]
    most = greatest(width)
    return run(op, width, a & most, b & most, c & most, flags)


def when(flags, cond):
    """[1] if the condition holds of the flags word, [0] if not, or [-1] where there is no such condition."""
    if cond > 15:
        return [-1]
    if is_met(flags, cond):
        return [1]
    return [0]


def byte(flags):
    """[the byte of flags]: S, Z, A, P and C of the flags word at their places, and bit 1 always at 1."""
    return [(flags & IN_BYTE) + 2]


def unbyte(flags, b):
    """[the flags word with the byte put in]: S, Z, A, P and C as the byte has them, all else as it was."""
    return [(flags & ~IN_BYTE) | (b & IN_BYTE)]
