"""Points put on a line one after another, spread as evenly as can be."""

OUT_OF_RANGE = -2
NOT_BELOW = -3

LEAST_TURN_BASE = 2
GREATEST_TURN_BASE = 16
GREATEST_TURN_NUMBER = 4294967295

GREATEST_LINE_COUNT = 4096
GREATEST_LINE_LENGTH = 2147483647

LEAST_NET_BASE = 2
GREATEST_NET_BASE = 5
GREATEST_NET_DIGITS = 10
GREATEST_NET_SIDES = 4
GREATEST_NET_SIZE = 1024

LEAST_HAMMERSLEY_BASE = 2
GREATEST_HAMMERSLEY_BASE = 16
GREATEST_HAMMERSLEY_DIGITS = 16
GREATEST_HAMMERSLEY_SIZE = 65536

GREATEST_BOX_COUNT = 65536


def in_range(number, least, greatest):
    """Tell whether number is from least to greatest."""
    return least <= number and number <= greatest


def all_below(numbers, bound):
    """Tell whether each of the numbers is below bound."""
    for number in numbers:
        if number >= bound:
            return False
    return True


def count_digits(b, n):
    """Give how many digits n has to the base b; 0 has none."""
    digits = 0
    rest = n
    while rest > 0:
        rest = rest // b
        digits = digits + 1
    return digits


def turn_digits(b, n, digits):
    """Give the number that the last so many digits of n to the base b are the other way about."""
    turned = 0
    rest = n
    # The last digit of n comes off first, and so ends up in front.
    for place in range(digits):
        turned = turned * b + rest % b
        rest = rest // b
    return turned


def sp_turn(b, n):
    """Answer how many digits n has to the base b, then the number that they are the other way about."""
    if not in_range(b, LEAST_TURN_BASE, GREATEST_TURN_BASE):
        return [OUT_OF_RANGE]
    if not in_range(n, 0, GREATEST_TURN_NUMBER):
        return [OUT_OF_RANGE]
    digits = count_digits(b, n)
    return [digits, turn_digits(b, n, digits)]


def line_refusal(n, q, a):
    """Give the refusal of n points a / q on a line, or 0 if there is none."""
    if not in_range(n, 1, GREATEST_LINE_COUNT) or not in_range(q, 1, GREATEST_LINE_LENGTH):
        return OUT_OF_RANGE
    if not all_below(a, q):
        return NOT_BELOW
    return 0


def sp_star(n, q, a):
    """Answer 0, then how far the count of the n points a / q below some place is off an even spread, times n q."""
    refusal = line_refusal(n, q, a)
    if refusal != 0:
        return [refusal]
    points = sorted(a)
    # At y = q both differences are 0, as all n points are below q; so the points alone are gone through.
    greatest = 0
    below = 0
    while below < n:
        y = points[below]
        no_greater = below
        while no_greater < n and points[no_greater] == y:
            no_greater = no_greater + 1
        greatest = max(greatest, abs(q * below - n * y), abs(q * no_greater - n * y))
        below = no_greater
    return [0, greatest]


def each_in_own_part(q, points):
    """Tell whether each of the points is in a part of its own, if the line is cut into as many parts as points."""
    count = len(points)
    return len(set([count * point // q for point in points])) == count


def sp_long(n, q, a):
    """Answer how many of the n points a / q can be put one after another, each time each in a part of its own."""
    refusal = line_refusal(n, q, a)
    if refusal != 0:
        return [refusal]
    longest = 0
    # No row of points stays well beyond the seventeenth, so this ends early however long a is.
    while longest < n and each_in_own_part(q, a[:longest + 1]):
        longest = longest + 1
    return [longest]


def to_the_power(b, exponent):
    """Give b to the exponent."""
    product = 1
    for step in range(exponent):
        product = product * b
    return product


def ways_to_split(total, count):
    """List every way to write total as a sum of count numbers from 0 on, in every order."""
    ways = [[]]
    for place in range(count - 1):
        longer = []
        for way in ways:
            for number in range(total - sum(way) + 1):
                longer.append(way + [number])
        ways = longer
    return [way + [total - sum(way)] for way in ways]


def boxes_of_points(b, m, cuts, columns):
    """Give each point's box as one number; a column holds one of the s numbers of every point."""
    boxes = [0] * len(columns[0])
    for d, column in zip(cuts, columns):
        parts = to_the_power(b, d)
        width = to_the_power(b, m - d)
        boxes = [box * parts + number // width for box, number in zip(boxes, column)]
    return boxes


def each_held_so_often(boxes, often):
    """Tell whether each number in boxes stands in it just so often."""
    counts = {}
    for box in boxes:
        counts[box] = counts.get(box, 0) + 1
    return all([count == often for count in counts.values()])


def is_net(b, m, t, columns):
    """Tell whether this t is one of those that sp_net seeks the least of."""
    often = to_the_power(b, t)
    for cuts in ways_to_split(m - t, len(columns)):
        if not each_held_so_often(boxes_of_points(b, m, cuts, columns), often):
            return False
    return True


def sp_net(b, m, s, l):
    """Answer the least t for which each box that holds any of the points holds just b to the t of them."""
    if not in_range(b, LEAST_NET_BASE, GREATEST_NET_BASE) or not in_range(m, 1, GREATEST_NET_DIGITS):
        return [OUT_OF_RANGE]
    size = to_the_power(b, m)
    if size > GREATEST_NET_SIZE or not in_range(s, 1, GREATEST_NET_SIDES):
        return [OUT_OF_RANGE]
    if not all_below(l, size):
        return [NOT_BELOW]
    columns = [l[side::s] for side in range(s)]
    t = 0
    # This ends at m at the latest: the one box is then the whole, and holds all points.
    while not is_net(b, m, t, columns):
        t = t + 1
    return [t]


def sp_hammersley(b, m):
    """Answer b to the m, then for each k below it: k, and its m digits to the base b the other way about."""
    if not in_range(b, LEAST_HAMMERSLEY_BASE, GREATEST_HAMMERSLEY_BASE):
        return [OUT_OF_RANGE]
    if not in_range(m, 1, GREATEST_HAMMERSLEY_DIGITS):
        return [OUT_OF_RANGE]
    size = to_the_power(b, m)
    if size > GREATEST_HAMMERSLEY_SIZE:
        return [OUT_OF_RANGE]
    answer = [size]
    for k in range(size):
        answer.append(k)
        answer.append(turn_digits(b, k, m))
    return answer


def sp_box(n, x, y, l):
    """Answer how many of the n points, two numbers each, have the first below x and the second below y."""
    if not in_range(n, 0, GREATEST_BOX_COUNT):
        return [OUT_OF_RANGE]
    inside = 0
    for first, second in zip(l[0::2], l[1::2]):
        if first < x and second < y:
            inside = inside + 1
    return [inside]
