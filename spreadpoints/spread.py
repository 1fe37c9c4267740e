"""Points put on a line one after another, spread as evenly as can be."""

OUT_OF_RANGE = -2
NOT_BELOW = -3

LEAST_TURN_BASE = 2
GREATEST_TURN_BASE = 16
GREATEST_TURN_NUMBER = 4294967295

GREATEST_LINE_COUNT = 4096
GREATEST_LINE_LENGTH = 2147483647


def in_range(number, least, greatest):
    """Tell whether number is from least to greatest."""
    return least <= number and number <= greatest


def all_below(numbers, bound):
    """Tell whether each of the numbers is below bound."""
    for number in numbers:
        if number >= bound:
            return False
    return True


def sp_turn(b, n):
    """Answer how many digits n has to the base b, then the number that they are the other way about."""
    if not in_range(b, LEAST_TURN_BASE, GREATEST_TURN_BASE):
        return [OUT_OF_RANGE]
    if not in_range(n, 0, GREATEST_TURN_NUMBER):
        return [OUT_OF_RANGE]
    digits = 0
    turned = 0
    rest = n
    # The last digit of n comes off first, and so ends up in front.
    while rest > 0:
        turned = turned * b + rest % b
        rest = rest // b
        digits = digits + 1
    return [digits, turned]


def line_refusal(n, q, a):
    """Give the refusal of n points a / q on a line, or 0 if there is none."""
    if not in_range(n, 1, GREATEST_LINE_COUNT) or not in_range(q, 1, GREATEST_LINE_LENGTH):
        return OUT_OF_RANGE
    if not all_below(a, q):
        return NOT_BELOW
    return 0


def sp_star(n, q, a):
    """Answer 0, then how far the count of the n points a / q below some place is off an even spread, times n q."""
    refusal = line_refusal(n, q, a)
    if refusal != 0:
        return [refusal]
    points = sorted(a)
    # At y = q both differences are 0, as all n points are below q; so the points alone are gone through.
    greatest = 0
    below = 0
    while below < n:
        y = points[below]
        no_greater = below
        while no_greater < n and points[no_greater] == y:
            no_greater = no_greater + 1
        greatest = max(greatest, abs(q * below - n * y), abs(q * no_greater - n * y))
        below = no_greater
    return [0, greatest]


def each_in_own_part(q, points):
    """Tell whether each of the points is in a part of its own, if the line is cut into as many parts as points."""
    count = len(points)
    return len(set([count * point // q for point in points])) == count


def sp_long(n, q, a):
    """Answer how many of the n points a / q can be put one after another, each time each in a part of its own."""
    refusal = line_refusal(n, q, a)
    if refusal != 0:
        return [refusal]
    longest = 0
    # No row of points stays well beyond the seventeenth, so this ends early however long a is.
    while longest < n and each_in_own_part(q, a[:longest + 1]):
        longest = longest + 1
    return [longest]
