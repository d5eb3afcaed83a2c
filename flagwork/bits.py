"""Numbers of so many bits, and the flags word that goes with them."""

CARRY = 1
PARITY = 4
HALF_CARRY = 16
ZERO = 64
SIGN = 128
OVERFLOW = 2048

# S, Z, A, P and C: they have the same places in a flags word and in its byte.
IN_BYTE = 213


def greatest(width):
    """N - 1, the greatest number of so many bits."""
    return (1 << width) - 1


def bit(number, place):
    """The number's bit at a place, 0 or 1; a number below 0 goes on with its sign for ever."""
    return (number >> place) & 1


def signed(number, width):
    """[x]: the number itself where it is below N / 2, else the number less N."""
    if bit(number, width - 1) == 1:
        return number - (1 << width)
    return number


def fits_signed(number, width):
    """Whether the number is from -N / 2 to N / 2 - 1."""
    half = 1 << (width - 1)
    return -half <= number < half


def carry_of(flags):
    """k: C of the flags word, 0 or 1."""
    return flags & CARRY


def put(flags, mark, holds):
    """The flags word with the bit `mark` at 1 if it holds, else at 0; every other bit stays."""
    if holds:
        return flags | mark
    return flags & ~mark


def is_even_parity(number):
    """Whether an even number of the lowest eight bits is 1."""
    ones = 0
    for place in range(8):
        ones = ones + bit(number, place)
    return ones % 2 == 0


def show(flags, number, width):
    """The flags word with Z, S and P as the number has them."""
    after = put(flags, ZERO, number == 0)
    after = put(after, SIGN, bit(number, width - 1) == 1)
    return put(after, PARITY, is_even_parity(number))


def answer(lo, hi, flags):
    """What an operation that is not refused gives back."""
    return [0, lo, hi, flags]
