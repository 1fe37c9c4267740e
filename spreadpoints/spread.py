"""Points put on a line one after another, spread as evenly as can be."""

OUT_OF_RANGE = -2

LEAST_TURN_BASE = 2
GREATEST_TURN_BASE = 16
GREATEST_TURN_NUMBER = 4294967295


def sp_turn(b, n):
    """Answer how many digits n has to the base b, then the number that they are the other way about."""
    if b < LEAST_TURN_BASE or b > GREATEST_TURN_BASE:
        return [OUT_OF_RANGE]
    if n < 0 or n > GREATEST_TURN_NUMBER:
        return [OUT_OF_RANGE]
    digits = 0
    turned = 0
    rest = n
    # The last digit of n comes off first, and so ends up in front.
    while rest > 0:
        turned = turned * b + rest % b
        rest = rest // b
        digits = digits + 1
    return [digits, turned]
