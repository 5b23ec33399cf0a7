"""The calls: each is told four lengths and answers one list of whole numbers.

The lengths stand everywhere in the order ground, crank, coupler, rocker, so
that pin k is where bar k and the bar behind it (behind the last: the first)
meet.
"""


def kind(g, a, c, r):
    """Answer how the four lengths can move: [0] to [7], or [-1]."""
    lengths = [g, a, c, r]
    if not are_lengths(lengths):
        return [-1]
    return [kind_of(lengths)]


def full(g, a, c, r, pin):
    """Answer [1] if every angle can be at the pin, else [0]; or [-1], [-2]."""
    lengths = [g, a, c, r]
    if not are_lengths(lengths) or not is_pin(pin):
        return [-1]
    if kind_of(lengths) == 0:
        return [-2]
    if turns_fully(lengths, pin):
        return [1]
    return [0]


def are_lengths(lengths):
    """Tell whether each of the numbers may be a bar's length."""
    return all([1 <= length <= 999 for length in lengths])


def is_pin(pin):
    """Tell whether there is a pin of this number."""
    return 0 <= pin <= 3


def kind_of(lengths):
    """Answer the number of the kind that the four lengths are of."""
    longest = max(lengths)
    shortest = min(lengths)
    others = sum(lengths) - longest - shortest
    if longest > shortest + others:
        return 0
    if longest == shortest + others:
        return 1
    if shortest + longest > others:
        return 7
    if shortest + longest == others:
        return 6
    # Here one bar alone is the shortest: a second would be one of the other
    # two, and the longest and the shortest would make no less than these.
    return 2 + lengths.index(shortest)


def turns_fully(lengths, pin):
    """Tell whether the two bars at the pin can be at every angle.

    They hold their far ends at every distance from folded to stretched, and
    the other two bars must span each of them, the least and the greatest too.
    """
    bars = lengths[pin:] + lengths[:pin]
    folded = abs(bars[0] - bars[1])
    stretched = bars[0] + bars[1]
    return abs(bars[2] - bars[3]) <= folded and stretched <= bars[2] + bars[3]
