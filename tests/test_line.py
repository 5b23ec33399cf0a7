"""line: whether two bars can be in line, and another angle's cosine then."""

import itertools
import math
import unittest
from fractions import Fraction

from fourbars.linkage import full, kind, line, range_of

MOST = 9223372036854775807
LARGE = [(999, 1, 999, 999), (999, 998, 1, 1), (999, 997, 1, 1), (1, 1, 999, 999), (997, 991, 983, 977)]
ASKED = [(pin, folded, other) for pin in range(4) for folded in range(2) for other in range(4) if other != pin]


def lines(lengths, pin, folded):
    """What is answered with each other pin, in the order of the pins."""
    return [line(*lengths, pin, folded, other) for other in range(4) if other != pin]


def figure_in_line(lengths, pin, folded):
    """Where the pins are then, the pin in the middle, its first bar along x.

    Answers x of the first bar's far end, x of the second's, x of the pin
    opposite and the square of its y; None where there's no figure.
    """
    first, second, third, fourth = (lengths * 2)[pin:pin + 4]
    if folded == 0:
        second = -second
    way = first - second
    if way == 0:
        return None
    along = Fraction(third ** 2 - fourth ** 2 + way ** 2, 2 * way)
    if third ** 2 < along ** 2:
        return None
    return first, second, second + along, third ** 2 - along ** 2


def cosine_by_places(lengths, pin, folded, other):
    """The cosine at the other pin by where the pins are; None without one."""
    figure = figure_in_line(lengths, pin, folded)
    if figure is None:
        return None
    start, end, x, square = figure
    one, another = lengths[other], lengths[(other + 1) % 4]
    product = {
        1: (0 - end) * (x - end),
        2: (start - x) * (end - x) + square,
        3: (0 - start) * (x - start),
    }[(other - pin) % 4]
    return Fraction(product, one * another)


def told(cosine):
    if cosine is None:
        return [0, 0]
    return [1, 2, cosine.numerator, cosine.denominator]


def asked_of(lengths):
    """What can be asked of the lengths, but for two folded bars of one length."""
    for pin, folded, other in ASKED:
        if folded == 0 or lengths[pin] != lengths[(pin + 1) % 4]:
            yield pin, folded, other


class Ordinary(unittest.TestCase):
    def check(self, lengths, pin, folded, *told):
        with self.subTest(lengths=lengths, pin=pin, folded=folded):
            self.assertEqual(lines(lengths, pin, folded), [[1, 2, *numbers] for numbers in told])

    def none(self, lengths, pin, folded):
        with self.subTest(lengths=lengths, pin=pin, folded=folded):
            self.assertEqual(lines(lengths, pin, folded), [[0, 0]] * 3)

    def test_crank_shortest(self):
        lengths = (4, 1, 3, 5)
        self.check(lengths, 0, 0, [3, 10], [3, 10], [41, 50])
        self.check(lengths, 0, 1, [7, 18], [5, 6], [5, 6])
        self.check(lengths, 1, 0, [7, 32], [5, 8], [5, 8])
        self.check(lengths, 1, 1, [5, 16], [13, 20], [37, 40])
        for folded in (0, 1):
            self.none(lengths, 2, folded)
            self.none(lengths, 3, folded)

    def test_rocker_shortest(self):
        lengths = (3, 5, 4, 1)
        for folded in (0, 1):
            self.none(lengths, 0, folded)
            self.none(lengths, 1, folded)
        self.check(lengths, 2, 0, [3, 10], [41, 50], [3, 10])
        self.check(lengths, 2, 1, [5, 6], [5, 6], [7, 18])
        self.check(lengths, 3, 0, [5, 8], [5, 8], [7, 32])
        self.check(lengths, 3, 1, [13, 20], [37, 40], [5, 16])

    def test_coupler_shortest(self):
        lengths = (5, 3, 1, 4)
        for folded in (0, 1):
            self.none(lengths, 0, folded)
            self.none(lengths, 3, folded)
        self.check(lengths, 1, 0, [5, 8], [7, 32], [5, 8])
        self.check(lengths, 1, 1, [13, 20], [5, 16], [37, 40])
        self.check(lengths, 2, 0, [3, 10], [3, 10], [41, 50])
        self.check(lengths, 2, 1, [5, 6], [7, 18], [5, 6])

    def test_ground_shortest(self):
        lengths = (1, 3, 4, 5)
        for folded in (0, 1):
            self.none(lengths, 1, folded)
            self.none(lengths, 2, folded)
        self.check(lengths, 0, 0, [7, 32], [5, 8], [5, 8])
        self.check(lengths, 0, 1, [-5, 16], [37, 40], [-13, 20])
        self.check(lengths, 3, 0, [29, 36], [-11, 24], [43, 48])
        self.check(lengths, 3, 1, [-3, 8], [3, 8], [23, 32])

    def test_more(self):
        lengths = (2, 3, 4, 6)
        self.check(lengths, 0, 0, [1, 8], [9, 16], [3, 4])
        self.none(lengths, 0, 1)
        self.check(lengths, 1, 0, [17, 28], [27, 28], [-3, 8])
        self.none(lengths, 1, 1)
        self.none(lengths, 2, 0)
        self.check(lengths, 2, 1, [3, 4], [-3, 4], [-1, 8])
        self.none(lengths, 3, 0)
        self.check(lengths, 3, 1, [-3, 8], [3, 8], [23, 32])

    def test_cosine_0(self):
        # A right angle: between the two others, and at either far end.
        self.assertEqual(line(2, 3, 4, 3, 0, 0, 2), [1, 2, 0, 1])
        self.assertEqual(line(1, 2, 4, 5, 0, 0, 1), [1, 2, 0, 1])
        self.assertEqual(line(1, 2, 5, 4, 0, 0, 3), [1, 2, 0, 1])
        self.assertEqual(line(7, 4, 4, 5, 0, 1, 1), [1, 2, 0, 1])
        self.assertEqual(line(7, 4, 5, 4, 0, 1, 3), [1, 2, 0, 1])

    def test_no_figure(self):
        for lengths in itertools.permutations((10, 2, 3, 4)):
            for asked in ASKED:
                self.assertEqual(line(*lengths, *asked), [-2], (lengths, asked))


class Edges(unittest.TestCase):
    def test_one_figure_in_line(self):
        # Along the line: the crank to 2, the coupler to 5, the rocker to 9.
        lengths = (9, 2, 3, 4)
        cosines = {0: 1, 1: -1, 2: -1, 3: 1}
        for pin, folded, other in ASKED:
            answer = [0, 0]
            if cosines[pin] == (-1, 1)[folded]:
                answer = [1, 2, cosines[other], 1]
            self.assertEqual(line(*lengths, pin, folded, other), answer, (pin, folded, other))

    def test_one_figure_in_line_with_each_bar_the_longest(self):
        for longest, short in itertools.product(range(4), itertools.permutations((2, 3, 4))):
            lengths = short[:longest] + (9,) + short[longest:]
            at_longest = (longest, (longest - 1) % 4)
            for pin, folded, other in ASKED:
                answer = [0, 0]
                if (pin in at_longest) == (folded == 1):
                    answer = [1, 2, 1 if other in at_longest else -1, 1]
                self.assertEqual(line(*lengths, pin, folded, other), answer, (lengths, pin, folded, other))

    def test_folded_of_one_length_and_the_others_too(self):
        for one, other in ((2, 3), (3, 2), (2, 2), (1, 999), (999, 1), (999, 999), (1, 1)):
            two_and_two = [one, one, other, other]
            for pin in range(4):
                lengths = two_and_two[-pin:] + two_and_two[:-pin]
                with self.subTest(lengths=lengths, pin=pin):
                    answers = [line(*lengths, pin, 1, (pin + step) % 4) for step in (1, 2, 3)]
                    self.assertEqual(answers, [[-5], [1, 2, 1, 1], [-5]])

    def test_folded_of_one_length_and_the_others_not(self):
        for lengths in ((3, 3, 2, 4), (3, 3, 4, 2), (999, 999, 1, 2), (2, 2, 998, 999)):
            for pin in range(4):
                turned = lengths[-pin:] + lengths[:-pin]
                self.assertEqual(lines(turned, pin, 1), [[0, 0]] * 3, (turned, pin))

    def test_stretched_of_one_length_is_not_refused(self):
        self.assertEqual(lines((2, 2, 3, 3), 0, 0), [[1, 2, 2, 3], [1, 2, 1, 9], [1, 2, 2, 3]])
        self.assertEqual(lines((1, 1, 1, 1), 3, 0), [[1, 2, 1, 1], [1, 2, -1, 1], [1, 2, 1, 1]])

    def test_refused_just_where_any_angle_can_be(self):
        for lengths in itertools.product(range(1, 6), repeat=4):
            for pin, folded, other in ASKED:
                any_angle = (
                    folded == 1 and other != (pin + 2) % 4 and lengths[pin] == lengths[(pin + 1) % 4]
                    and lengths[pin - 1] == lengths[pin - 2]
                )
                answer = line(*lengths, pin, folded, other)
                self.assertEqual(answer == [-5], any_angle, (lengths, pin, folded, other))

    def test_just_reaching(self):
        # The two others are stretched themselves, or folded themselves.
        self.assertEqual(lines((3, 4, 5, 2), 0, 0), [[1, 2, 1, 1], [1, 2, -1, 1], [1, 2, 1, 1]])
        self.assertEqual(lines((3, 4, 5, 1), 0, 0), [[0, 0]] * 3)
        self.assertEqual(lines((3, 8, 7, 2), 0, 1), [[1, 2, 1, 1]] * 3)
        self.assertEqual(lines((3, 8, 8, 2), 0, 1), [[0, 0]] * 3)
        self.assertEqual(lines((3, 8, 2, 7), 0, 1), [[1, 2, -1, 1], [1, 2, 1, 1], [1, 2, -1, 1]])
        self.assertEqual(lines((3, 4, 9, 2), 0, 0), [[1, 2, 1, 1], [1, 2, 1, 1], [1, 2, -1, 1]])
        self.assertEqual(lines((3, 4, 10, 2), 0, 0), [[-2]] * 3)
        self.assertEqual(lines((8, 3, 2, 3), 0, 1), [[1, 2, -1, 1], [1, 2, -1, 1], [1, 2, 1, 1]])

    def test_least_and_greatest_lengths(self):
        self.assertEqual(lines((999, 999, 999, 999), 0, 0), [[1, 2, 1, 1], [1, 2, -1, 1], [1, 2, 1, 1]])
        self.assertEqual(lines((1, 1, 999, 999), 0, 0), [[1, 2, 1, 999], [1, 2, 997999, 998001], [1, 2, 1, 999]])
        self.assertEqual(lines((999, 997, 1, 1), 0, 1), [[1, 2, -1, 1], [1, 2, -1, 1], [1, 2, 1, 1]])
        self.assertEqual(lines((999, 998, 1, 1), 0, 1), [[1, 2, -1, 2], [1, 2, 1, 2], [1, 2, 1, 2]])
        self.assertEqual(lines((999, 996, 1, 1), 0, 1), [[-2]] * 3)

    def test_by_where_the_pins_are(self):
        rows = itertools.chain(itertools.product(range(1, 7), repeat=4), LARGE)
        for lengths in rows:
            if kind(*lengths) == [0]:
                continue
            for pin, folded, other in asked_of(lengths):
                answer = told(cosine_by_places(lengths, pin, folded, other))
                self.assertEqual(line(*lengths, pin, folded, other), answer, (lengths, pin, folded, other))

    def test_lowest_terms(self):
        for lengths in itertools.chain(itertools.product(range(1, 7), repeat=4), LARGE):
            for asked in ASKED:
                first, *rest = line(*lengths, *asked)
                if first == 1:
                    self.assertGreater(rest[2], 0, (lengths, asked))
                    self.assertEqual(math.gcd(rest[1], rest[2]), 1, (lengths, asked))

    def test_in_line_just_where_the_range_ends_so(self):
        for lengths in itertools.product(range(1, 7), repeat=4):
            for pin in range(4):
                numbers = range_of(*lengths, pin)[2:]
                there = {1: numbers[2:] == [1, 1], 0: numbers[:2] == [-1, 1]}
                for folded in (0, 1):
                    answer = line(*lengths, pin, folded, (pin + 2) % 4)
                    self.assertEqual(answer[0] == 1, there[folded], (lengths, pin, folded))
                both = there[0] and there[1]
                self.assertEqual(both, full(*lengths, pin) == [1], (lengths, pin))

    def test_enlarged_alike(self):
        for lengths in itertools.product(range(1, 5), repeat=4):
            for asked in ASKED:
                for times in (2, 999 // max(lengths)):
                    larger = [times * length for length in lengths]
                    self.assertEqual(line(*larger, *asked), line(*lengths, *asked), (lengths, asked))

    def test_told_the_other_way_round(self):
        for g, a, c, r in itertools.chain(itertools.product(range(1, 6), repeat=4), LARGE):
            for pin, folded, other in ASKED:
                answer = line(g, r, c, a, 3 - pin, folded, 3 - other)
                self.assertEqual(answer, line(g, a, c, r, pin, folded, other), (g, a, c, r, pin, folded, other))


class Wrong(unittest.TestCase):
    def test_wrong_ahead_of_no_figure(self):
        self.assertEqual(line(999, 1, 1, 1, 3, 1, 2), [-2])
        self.assertEqual(line(999, 1, 1, 1, 3, 1, 3), [-1])
        self.assertEqual(line(999, 1, 1, 1, 4, 1, 2), [-1])
        self.assertEqual(line(999, 1, 1, 1, 3, 2, 2), [-1])
        self.assertEqual(line(999, 1, 1, 1, 3, 1, 4), [-1])
        self.assertEqual(line(1000, 1, 1, 1, 3, 1, 2), [-1])

    def test_wrong_ahead_of_any_angle(self):
        self.assertEqual(line(2, 2, 3, 3, 0, 1, 1), [-5])
        self.assertEqual(line(2, 2, 3, 3, 0, 1, 0), [-1])
        self.assertEqual(line(2, 2, 3, 3, 0, 1, MOST), [-1])
        self.assertEqual(line(2, 2, 3, 3, 0, 2, 1), [-1])
        self.assertEqual(line(2, 2, 1000, 1000, 0, 1, 1), [-1])

    def test_no_figure_ahead_of_none_in_line(self):
        # The two folded bars are of one length, the others can't be.
        self.assertEqual(lines((1, 1, 1, 9), 0, 1), [[-2]] * 3)
        self.assertEqual(lines((1, 1, 9, 1), 0, 1), [[-2]] * 3)
        self.assertEqual(lines((9, 1, 1, 1), 1, 1), [[-2]] * 3)


if __name__ == "__main__":
    unittest.main()
