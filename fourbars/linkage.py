"""The calls: each is told four lengths and answers one list of whole numbers.

The lengths stand everywhere in the order ground, crank, coupler, rocker, so
that pin k is where bar k and the bar behind it (behind the last: the first)
meet.
"""

# The crank's places where C is nearest to B and where it's farthest from it.
NEAREST_AND_FARTHEST = ((0, 1), (1, 0))


def kind(g, a, c, r):
    """Answer how the four lengths can move: [0] to [7], or [-1]."""
    lengths = [g, a, c, r]
    if not are_lengths(lengths):
        return [-1]
    return [kind_of(lengths)]


def full(g, a, c, r, pin):
    """Answer [1] if every angle can be at the pin, else [0]; or [-1], [-2]."""
    lengths = [g, a, c, r]
    if not are_lengths(lengths) or not is_pin(pin):
        return [-1]
    if kind_of(lengths) == 0:
        return [-2]
    if turns_fully(lengths, pin):
        return [1]
    return [0]


def range_of(g, a, c, r, pin):
    """Answer [0, 4], the least and the greatest cosine; or [-1], [-2]."""
    lengths = [g, a, c, r]
    if not are_lengths(lengths) or not is_pin(pin):
        return [-1]
    if kind_of(lengths) == 0:
        return [-2]
    bars = bars_from(lengths, pin)
    nearest = max(abs(bars[0] - bars[1]), abs(bars[2] - bars[3]))
    farthest = min(bars[0] + bars[1], bars[2] + bars[3])
    least = cosine(bars[0], bars[1], farthest)
    greatest = cosine(bars[0], bars[1], nearest)
    return [0, 4] + least + greatest


def line(g, a, c, r, pin, folded, other):
    """Answer [1, 2], the cosine at the other pin; or [0, 0]: there's none.

    A refusal is [-1], [-2], or [-5]: every angle can be at the other pin.
    """
    lengths = [g, a, c, r]
    if not are_lengths(lengths) or not is_choice(folded):
        return [-1]
    if not is_pin(pin) or not is_pin(other) or other == pin:
        return [-1]
    if kind_of(lengths) == 0:
        return [-2]
    bars = bars_from(lengths, pin)
    way = way_in_line(bars[0], bars[1], folded)
    if not spans(bars[2], bars[3], abs(way)):
        return [0, 0]
    opposite = abs(other - pin) == 2
    if way == 0 and not opposite:
        return [-5]
    return [1, 2] + cosine_in_line(bars, folded, (other - pin) % 4)


def circuits(g, a, c, r):
    """Answer how many circuits there are, [0] to [2]; or [-1]."""
    lengths = [g, a, c, r]
    if not are_lengths(lengths):
        return [-1]
    number = kind_of(lengths)
    if number == 0:
        return [0]
    if number in (2, 3, 4, 5):
        return [2]
    return [1]


def circuit(g, a, c, r, p, q, s):
    """Answer which circuit the figure is of, [0] or [1]; or [-1], [-3]."""
    lengths = [g, a, c, r]
    place = [p, q]
    if not are_lengths(lengths) or not is_place(place) or not is_choice(s):
        return [-1]
    if not closes(lengths, place):
        return [-3]
    number = kind_of(lengths)
    if number in (2, 3):
        return [s]
    # Of kinds 4 and 5, no figure has C on the ground's line.
    if number in (4, 5) and p * q < 0:
        return [1]
    return [0]


def drive(g, a, c, r, p, q, s, left, p2, q2):
    """Answer the side on which D is at the end, [0] or [1].

    A refusal is [-1], [-3]: no figure at first, [-4]: none on the way, or
    [-5]: D may go to either side.
    """
    lengths = [g, a, c, r]
    start = [p, q]
    end = [p2, q2]
    if not are_lengths(lengths) or not is_choice(s) or not is_choice(left):
        return [-1]
    if not is_place(start) or not is_place(end):
        return [-1]
    if not closes(lengths, start):
        return [-3]
    # Between two of these, start and end, C only comes nearer to B or only goes
    # farther from it: so what holds at all of them tells of the whole way.
    passed = [place for place in NEAREST_AND_FARTHEST if passes(start, place, end, left)]
    if not meets(lengths, end) or not all([meets(lengths, place) for place in passed]):
        return [-4]
    if is_at_b(lengths, end) or any([touches(lengths, place) for place in passed]):
        return [-5]
    if touches(lengths, end):
        return [0]
    return [s]


def swing(g, a, c, r, which, m):
    """Answer [0, 1] and how many whole 2^m-ths of a turn; or [-1], [-2]."""
    lengths = [g, a, c, r]
    if not are_lengths(lengths) or not is_choice(which) or not 1 <= m <= 8:
        return [-1]
    if kind_of(lengths) != 3:
        return [-2]
    # So far is D from A at the two extremes, where coupler and crank are in line.
    folded = way_in_line(c, a, 1)
    stretched = way_in_line(c, a, 0)
    if which == 0:
        first = [0] + cosine(g, r, folded)
        last = [0] + cosine(g, r, stretched)
    else:
        first = [0] + cosine(g, stretched, r)
        # Folded on the coupler, the longer one, the crank points away from D.
        last = [1] + cosine(g, folded, r)
    # A 2^m-th of a turn, taken 2^(m - 1) times, is half a turn.
    return [0, 1, half_turns_between(doubled(first, m - 1), doubled(last, m - 1))]


def are_lengths(lengths):
    """Tell whether each of the numbers may be a bar's length."""
    return all([1 <= length <= 999 for length in lengths])


def is_pin(pin):
    """Tell whether there is a pin of this number."""
    return 0 <= pin <= 3


def is_choice(number):
    """Tell whether the number may stand for one of two choices."""
    return 0 <= number <= 1


def is_place(place):
    """Tell whether the two numbers tell a place of the crank."""
    return all([-99 <= number <= 99 for number in place]) and place != [0, 0]


def kind_of(lengths):
    """Answer the number of the kind that the four lengths are of."""
    longest = max(lengths)
    shortest = min(lengths)
    others = sum(lengths) - longest - shortest
    if longest > shortest + others:
        return 0
    if longest == shortest + others:
        return 1
    if shortest + longest > others:
        return 7
    if shortest + longest == others:
        return 6
    # Here one bar alone is the shortest: a second would be one of the other
    # two, and the longest and the shortest would make no less than these.
    return 2 + lengths.index(shortest)


def bars_from(lengths, pin):
    """Answer the two bars at the pin, then the two others, round the figure."""
    return lengths[pin:] + lengths[:pin]


def spans(one, another, way):
    """Tell whether two bars that meet can have their far ends so far apart."""
    return abs(one - another) <= way <= one + another


def turns_fully(lengths, pin):
    """Tell whether the two bars at the pin can be at every angle.

    They hold their far ends at every distance from folded to stretched, and
    the other two bars must span each of them, the least and the greatest too.
    """
    bars = bars_from(lengths, pin)
    folded = way_in_line(bars[0], bars[1], 1)
    stretched = way_in_line(bars[0], bars[1], 0)
    return spans(bars[2], bars[3], abs(folded)) and spans(bars[2], bars[3], stretched)


def way_in_line(bar, another, folded):
    """Answer the way from the bar's far end to the other's, both in line.

    It is above 0 along the bar towards the pin where they meet, and below 0
    the other way, where the other bar, folded, is the longer one.
    """
    if folded == 1:
        return bar - another
    return bar + another


def closes(lengths, place):
    """Tell whether there's a figure at the crank's place."""
    return meets(lengths, place) and not is_at_b(lengths, place)


def meets(lengths, place):
    """Tell whether the circles about C and B meet, or are one circle."""
    squares = squares_at(lengths, place)
    return squares[0] <= squares[1] <= squares[2]


def touches(lengths, place):
    """Tell whether the circles about C and B touch, or are one circle."""
    squares = squares_at(lengths, place)
    return squares[1] == squares[0] or squares[1] == squares[2]


def is_at_b(lengths, place):
    """Tell whether C is at B."""
    return lengths[0] == lengths[1] and place[0] == 0


def squares_at(lengths, place):
    """Answer the squares of three ways: C to B with the coupler and the rocker
    folded, as it is at the place, and with these stretched.

    Each is told p p + q q times, for so often all three are whole.
    """
    along = place[1] * place[1]
    against = place[0] * place[0]
    folded = square(way_in_line(lengths[2], lengths[3], 1))
    stretched = square(way_in_line(lengths[2], lengths[3], 0))
    nearest = square(way_in_line(lengths[0], lengths[1], 1))
    farthest = square(way_in_line(lengths[0], lengths[1], 0))
    way = nearest * along + farthest * against
    return [folded * (along + against), way, stretched * (along + against)]


def square(number):
    """Answer the number times itself."""
    return number * number


def passes(start, place, end, left):
    """Tell whether the crank, behind start and before end, comes by the place.

    Where it does so to the left, the half angle rises from each of the three
    to the next but once round, to the right it falls but once. A place's other
    numbers change two of the signs, or none.
    """
    rises = half_angle_rise(start, place) * half_angle_rise(place, end) * half_angle_rise(end, start)
    if left == 1:
        return rises < 0
    return rises > 0


def half_angle_rise(place, another):
    """Answer a number above 0 where half the crank's angle is the greater one
    at the other place, 0 where it's the same, both told with q above 0.
    """
    return another[0] * place[1] - place[0] * another[1]


def doubled(angle, times):
    """Answer the angle doubled so many times.

    An angle is told as how many half turns it has, and the cosine of what is
    left, below half a turn.
    """
    half_turns = angle[0]
    above = angle[1]
    below = angle[2]
    for turn in range(times):
        half_turns = 2 * half_turns
        twice = 2 * square(above) - square(below)
        if above <= 0:
            half_turns = half_turns + 1
            twice = -twice
        above = twice
        below = square(below)
    return [half_turns, above, below]


def half_turns_between(first, last):
    """Answer how many whole half turns lead from the first angle to the last."""
    # What is left of an angle is less where its cosine is greater.
    if is_greater(last[1:], first[1:]):
        return last[0] - first[0] - 1
    return last[0] - first[0]


def is_greater(fraction_one, fraction_two):
    """Tell whether the first fraction is greater than the second.

    Whole part by whole part, for multiplied across they'd have too many digits.
    """
    one = fraction_one
    two = fraction_two
    while one[0] // one[1] == two[0] // two[1]:
        rest_one = one[0] % one[1]
        rest_two = two[0] % two[1]
        if rest_one == 0 or rest_two == 0:
            return rest_one > rest_two
        # The first rest is the greater one if, upside down, it's the less.
        upside_down = [one[1], rest_one]
        one = [two[1], rest_two]
        two = upside_down
    return one[0] // one[1] > two[0] // two[1]


def cosine_in_line(bars, folded, step):
    """Answer the cosine so many pins onward, the first two bars in line.

    The two other bars make a triangle with the way between the far ends. At
    either end of it the way's sign tells where the bar in line points.
    """
    if step == 1:
        return cosine(way_in_line(bars[1], bars[0], folded), bars[2], bars[3])
    if step == 2:
        return cosine(bars[2], bars[3], way_in_line(bars[0], bars[1], folded))
    return cosine(way_in_line(bars[0], bars[1], folded), bars[3], bars[2])


def cosine(one, another, across):
    """Answer the cosine between two sides of a triangle, told the third.

    A first side below 0 leads the other way: the angle beside it counts.
    """
    return fraction(one * one + another * another - across * across, 2 * one * another)


def fraction(above, below):
    """Answer the fraction's two numbers in lowest terms, the second above 0."""
    common = common_part(abs(above), abs(below))
    if below < 0:
        common = -common
    return [above // common, below // common]


def common_part(one, another):
    """Answer the greatest whole number that goes into both."""
    left = one
    right = another
    while right != 0:
        rest = left % right
        left = right
        right = rest
    return left
