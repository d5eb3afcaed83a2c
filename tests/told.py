"""What the calls answer, told once more after DOC.md's words, by rows of signs and slow steps.

The tests hold the program to this. It is kept apart from the program on purpose:
it shares no code with it, and works on rows of "0" and "1" where the program
works on numbers.
"""

PLACES = {"C": 0, "P": 2, "A": 4, "Z": 6, "S": 7, "O": 11}
WIDTHS = (8, 16, 32, 64)
GREATEST = 2 ** 64 - 1
FULL = 2 ** 32 - 1

FEWER_WIDTHS = {
    20: (16, 32, 64), 21: (16, 32, 64), 26: (16, 32, 64), 27: (16, 32, 64),
    28: (16, 32, 64), 29: (16, 32, 64), 30: (16, 32, 64), 31: (16, 32, 64),
    32: (32, 64), 38: (8,), 39: (8,), 40: (16,), 41: (16,), 42: (16,), 43: (16,),
}


def widths_of(op):
    return FEWER_WIDTHS.get(op, WIDTHS)


def row(number, size):
    """The bits of a number as a row of signs, the highest first."""
    return format(number, "0%db" % size)


def value(signs):
    return int(signs, 2)


def flag(flags, name):
    return flags // 2 ** PLACES[name] % 2


def word(flags, given):
    """The flags word with the given flags, the others as they were."""
    signs = list(row(flags, 32))
    for name, holds in given.items():
        signs[31 - PLACES[name]] = "1" if holds else "0"
    return value("".join(signs))


def sign_read(x, w):
    return x if x < 2 ** w // 2 else x - 2 ** w


def shows(x, w):
    return {"Z": x == 0, "S": row(x, w)[0] == "1", "P": row(x % 256, 8).count("1") % 2 == 0}


def after_sum(w, a, b, k):
    n = 2 ** w
    lo = (a + b + k) % n
    given = shows(lo, w)
    given["C"] = a + b + k >= n
    given["A"] = a % 16 + b % 16 + k >= 16
    given["O"] = sign_read(a, w) + sign_read(b, w) + k != sign_read(lo, w)
    return lo, given


def after_difference(w, a, b, k):
    lo = (a - b - k) % 2 ** w
    given = shows(lo, w)
    given["C"] = a < b + k
    given["A"] = a % 16 < b % 16 + k
    given["O"] = sign_read(a, w) - sign_read(b, w) - k != sign_read(lo, w)
    return lo, given


def told_sum(op, w, a, b, c, flags):
    k = flag(flags, "C")
    if op in (0, 1, 33):
        lo, given = after_sum(w, a, b, k if op == 1 else 0)
        return lo, a if op == 33 else 0, given
    if op in (2, 3):
        lo, given = after_difference(w, a, b, k if op == 3 else 0)
        return lo, 0, given
    if op == 4:
        return a, 0, after_difference(w, a, b, 0)[1]
    if op == 5:
        lo, given = after_difference(w, 0, a, 0)
        return lo, 0, given
    if op == 34:
        return b if c == a else a, a, after_difference(w, c, a, 0)[1]
    lo, given = after_sum(w, a, 1, 0) if op == 6 else after_difference(w, a, 1, 0)
    del given["C"]
    return lo, 0, given


def told_bitwise(op, w, a, b, c, flags):
    if op == 12:
        return 2 ** w - 1 - a, 0, {}
    wanted = {8: ("11",), 9: ("11", "10", "01"), 10: ("10", "01"), 11: ("11",)}[op]
    pairs = zip(row(a, w), row(b, w))
    x = value("".join("1" if p + q in wanted else "0" for p, q in pairs))
    given = shows(x, w)
    given["C"] = given["O"] = False
    return a if op == 11 else x, 0, given


def told_shift(op, w, a, b, c, flags):
    n = b % (64 if w == 64 else 32)
    if n == 0:
        return a, 0, {}
    signs = row(a, w)
    first = signs[0]
    out = None
    for _ in range(n):
        if op == 13:
            out, signs = signs[0], signs[1:] + "0"
        else:
            out, signs = signs[-1], (first if op == 15 else "0") + signs[:-1]
    given = shows(value(signs), w)
    if op == 15 or n < w:
        given["C"] = out == "1"
    if n == 1:
        given["O"] = {13: signs[0] != out, 14: first == "1", 15: False}[op]
    return value(signs), 0, given


def told_turn(op, w, a, b, c, flags):
    n = b % (64 if w == 64 else 32)
    if n == 0:
        return a, 0, {}
    k = str(flag(flags, "C"))
    signs = row(a, w) if op < 18 else k + row(a, w)
    for _ in range(n):
        signs = signs[1:] + signs[0] if op in (16, 18) else signs[-1] + signs[:-1]
    low = signs[-w:]
    carry = {16: low[-1], 17: low[0], 18: signs[0], 19: signs[0]}[op]
    given = {"C": carry == "1"}
    if n == 1:
        given["O"] = {
            16: low[0] != carry, 17: low[0] != low[1],
            18: low[0] != carry, 19: row(a, w)[0] != k,
        }[op]
    return value(low), 0, given


def told_double_shift(op, w, a, b, c, flags):
    n = c % (64 if w == 64 else 32)
    if n == 0:
        return a, 0, {}
    if n > w:
        return -2
    if op == 20:
        low = (row(a, w) + row(b, w))[n:n + w]
        out = row(a, w)[n - 1]
    else:
        low = (row(b, w) + row(a, w))[w - n:2 * w - n]
        out = row(a, w)[w - n]
    given = shows(value(low), w)
    given["C"] = out == "1"
    if n == 1:
        given["O"] = low[0] != row(a, w)[0]
    return value(low), 0, given


def told_product(op, w, a, b, c, flags):
    n = 2 ** w
    if op == 22:
        hi, lo = divmod(a * b, n)
        return lo, hi, {"C": hi != 0, "O": hi != 0}
    if op == 23:
        product = sign_read(a, w) * sign_read(b, w)
        hi, lo = divmod(product % (n * n), n)
        long = product < -(n // 2) or product > n // 2 - 1
        return lo, hi, {"C": long, "O": long}
    if b == 0:
        return -3
    if op == 24:
        if c >= b:
            return -3
        quotient, rest = divmod(c * n + a, b)
        return quotient, rest, {}
    dividend = c * n + a - (n * n if c >= n // 2 else 0)
    divisor = sign_read(b, w)
    quotient = dividend // divisor
    if quotient < 0 and quotient * divisor != dividend:
        quotient += 1
    if quotient < -(n // 2) or quotient > n // 2 - 1:
        return -3
    return quotient % n, (dividend - quotient * divisor) % n, {}


def told_place(op, w, a, b, c, flags):
    if op < 30:
        signs = list(row(a, w)[::-1])
        i = b % w
        old = signs[i]
        signs[i] = {26: old, 27: "1", 28: "0", 29: "0" if old == "1" else "1"}[op]
        return value("".join(signs)[::-1]), 0, {"C": old == "1"}
    if op == 32:
        return int.from_bytes(a.to_bytes(w // 8, "big"), "little"), 0, {}
    if b == 0:
        return a, 0, {"Z": True}
    lowest_first = row(b, w)[::-1]
    return lowest_first.find("1") if op == 30 else lowest_first.rfind("1"), 0, {"Z": False}


def told_carry(op, w, a, b, c, flags):
    return a, 0, {"C": {35: False, 36: True, 37: flag(flags, "C") == 0}[op]}


def told_two_digits(op, w, a, b, c, flags):
    way = 1 if op == 38 else -1
    lo = a
    first = a % 16 > 9 or flag(flags, "A") == 1
    if first:
        lo = (lo + way * 6) % 256
    second = a > 153 or flag(flags, "C") == 1
    if second:
        lo = (lo + way * 96) % 256
    given = shows(lo, 8)
    given["A"] = first
    given["C"] = second
    if op == 39 and not second:
        given["C"] = first and a < 6
    return lo, 0, given


def told_one_digit(op, w, a, b, c, flags):
    h, l = divmod(a, 256)
    low = b % 256
    if op == 42:
        if low == 0:
            return -3
        return l // low * 256 + l % low, 0, shows(l % low, 8)
    if op == 43:
        x = (l + h * low) % 256
        return x, 0, shows(x, 8)
    holds = l % 16 > 9 or flag(flags, "A") == 1
    if holds:
        a = (a + (262 if op == 40 else -262)) % 65536
    return a // 256 * 256 + a % 256 % 16, 0, {"A": holds, "C": holds}


def family(op):
    if op in (0, 1, 2, 3, 4, 5, 6, 7, 33, 34):
        return told_sum
    if op <= 12:
        return told_bitwise
    if op <= 15:
        return told_shift
    if op <= 19:
        return told_turn
    if op <= 21:
        return told_double_shift
    if op <= 25:
        return told_product
    if op <= 32:
        return told_place
    if op <= 37:
        return told_carry
    return told_two_digits if op <= 39 else told_one_digit


def told(op, width, a, b, c, flags):
    """What `do` is to answer."""
    if op > 43 or width not in widths_of(op):
        return [-1]
    n = 2 ** width
    answer = family(op)(op, width, a % n, b % n, c % n, flags)
    if isinstance(answer, int):
        return [answer]
    lo, hi, given = answer
    return [0, lo, hi, word(flags, given)]


def holds(flags, cond):
    """Whether a condition from 0 to 15 holds of the flags word."""
    c, p, z, s, o = (row(flags, 32)[31 - PLACES[name]] for name in "CPZSO")
    even = {
        0: o, 2: c, 4: z, 6: max(c, z), 8: s, 10: p,
        12: "0" if s == o else "1", 14: z if s == o else "1",
    }
    if cond in even:
        return even[cond] == "1"
    return even[cond - 1] == "0"


def told_when(flags, cond):
    """What `when` is to answer."""
    if cond > 15:
        return [-1]
    return [1] if holds(flags, cond) else [0]


def told_byte(flags):
    """What `byte` is to answer."""
    return [sum(worth * flag(flags, name) for name, worth in zip("SZAPC", (128, 64, 16, 4, 1))) + 2]


def told_unbyte(flags, b):
    """What `unbyte` is to answer."""
    s, z, _, a, _, p, _, c = (sign == "1" for sign in row(b, 8))
    return [word(flags, {"S": s, "Z": z, "A": a, "P": p, "C": c})]
