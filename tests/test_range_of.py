"""range_of: the least and the greatest cosine that the angle at a pin can have."""

import itertools
import math
import unittest
from fractions import Fraction

from fourbars.linkage import full, kind, range_of

COSINES = [Fraction(n, 12) for n in range(-12, 13)]
LITTLE = Fraction(1, 10 ** 12)
LARGE = [(999, 1, 999, 999), (999, 998, 1, 1), (999, 997, 1, 1), (1, 1, 999, 999), (997, 991, 983, 977)]
WHOLE = [-1, 1, 1, 1]


def ranges(*lengths):
    return [range_of(*lengths, pin) for pin in range(4)]


def ends(*row):
    """The least and the greatest cosine, as they are told."""
    first, many, *numbers = range_of(*row)
    assert (first, many) == (0, 4)
    return Fraction(*numbers[:2]), Fraction(*numbers[2:])


def with_figures(upto):
    for lengths in itertools.product(range(1, upto + 1), repeat=4):
        if kind(*lengths) != [0]:
            yield lengths


def can_be(lengths, pin, cosine):
    """Do the two other bars span the way between the far ends of the two?"""
    one, two, three, four = (lengths * 2)[pin:pin + 4]
    square = one * one + two * two - 2 * one * two * cosine
    return (three - four) ** 2 <= square <= (three + four) ** 2


class Ordinary(unittest.TestCase):
    def check(self, lengths, *told):
        with self.subTest(lengths=lengths):
            self.assertEqual(ranges(*lengths), [[0, 4, *numbers] for numbers in told])

    def test_ground_shortest(self):
        self.check((1, 3, 4, 5), WHOLE, [-11, 24, 3, 8], [5, 8, 37, 40], WHOLE)

    def test_crank_shortest(self):
        self.check((4, 1, 3, 5), WHOLE, WHOLE, [3, 10, 5, 6], [5, 8, 37, 40])

    def test_coupler_shortest(self):
        self.check((5, 3, 1, 4), [3, 10, 5, 6], WHOLE, WHOLE, [5, 8, 37, 40])

    def test_rocker_shortest(self):
        self.check((3, 5, 4, 1), [3, 10, 5, 6], [5, 8, 37, 40], WHOLE, WHOLE)

    def test_just_as_much(self):
        self.check((4, 1, 2, 3), WHOLE, WHOLE, [-1, 1, 1, 3], [2, 3, 1, 1])
        self.check((1, 1, 3, 3), WHOLE, WHOLE, [7, 9, 1, 1], WHOLE)
        self.check((1, 1, 1, 1), WHOLE, WHOLE, WHOLE, WHOLE)
        self.check((3, 1, 3, 1), WHOLE, WHOLE, WHOLE, WHOLE)

    def test_more(self):
        self.check((2, 3, 4, 6), [-1, 1, 3, 4], [-1, 1, 3, 8], [9, 16, 1, 1], [-3, 8, 1, 1])
        self.check((2, 2, 2, 3), [-1, 1, 7, 8], [-1, 1, 7, 8], [-1, 4, 1, 1], [-1, 4, 1, 1])
        self.check((5, 4, 3, 7), [-1, 1, 5, 8], [-1, 1, 7, 8], [-23, 42, 1, 1], [5, 14, 1, 1])

    def test_cosine_0(self):
        self.assertEqual(range_of(3, 4, 6, 1, 0), [0, 4, -1, 1, 0, 1])
        self.assertEqual(range_of(3, 4, 4, 1, 0), [0, 4, 0, 1, 2, 3])
        self.assertEqual(range_of(6, 1, 3, 4, 2), [0, 4, -1, 1, 0, 1])

    def test_no_figure(self):
        for lengths in itertools.permutations((10, 2, 3, 4)):
            self.assertEqual(ranges(*lengths), [[-2]] * 4)
        self.assertEqual(ranges(999, 996, 1, 1), [[-2]] * 4)


class Edges(unittest.TestCase):
    def test_one_figure_in_line(self):
        folded, stretched = [0, 4, 1, 1, 1, 1], [0, 4, -1, 1, -1, 1]
        for short in itertools.permutations((2, 3, 4)):
            for pin in range(4):
                longest = [9, *short]
                lengths = longest[-pin:] + longest[:-pin]
                answers = ranges(*lengths)
                with self.subTest(lengths=lengths):
                    # The longest bar's two pins are folded.
                    self.assertEqual(answers[pin], folded)
                    self.assertEqual(answers[pin - 1], folded)
                    self.assertEqual(answers[pin - 2], stretched)
                    self.assertEqual(answers[pin - 3], stretched)
        self.assertEqual(ranges(999, 997, 1, 1), [folded, stretched, stretched, folded])

    def test_least_and_greatest_lengths(self):
        rocker = [0, 4, 498001, 998001, 499999, 998001]
        whole = [0, 4, -1, 1, 1, 1]
        self.assertEqual(ranges(999, 1, 999, 999), [whole, whole, rocker, rocker])
        self.assertEqual(ranges(999, 999, 999, 999), [whole] * 4)
        self.assertEqual(range_of(999, 998, 1, 1, 0), [0, 4, 664667, 664668, 1, 1])
        self.assertEqual(range_of(999, 998, 1, 1, 1), [0, 4, -1, 1, 1, 1996])
        self.assertEqual(range_of(999, 998, 1, 1, 2), [0, 4, -1, 1, 1, 2])
        self.assertEqual(range_of(999, 998, 1, 1, 3), [0, 4, 1, 1998, 1, 1])

    def test_lowest_terms(self):
        for lengths in itertools.chain(with_figures(6), LARGE):
            for answer in ranges(*lengths):
                for above, below in (answer[2:4], answer[4:6]):
                    self.assertGreater(below, 0, lengths)
                    self.assertEqual(math.gcd(above, below), 1, lengths)

    def test_just_from_the_least_to_the_greatest(self):
        for lengths in with_figures(6):
            for pin in range(4):
                least, greatest = ends(*lengths, pin)
                self.assertTrue(-1 <= least <= greatest <= 1, (lengths, pin))
                for cosine in COSINES:
                    told = least <= cosine <= greatest
                    self.assertEqual(can_be(lengths, pin, cosine), told, (lengths, pin, cosine))

    def test_the_ends_themselves(self):
        for lengths in itertools.chain(with_figures(6), LARGE):
            for pin in range(4):
                least, greatest = ends(*lengths, pin)
                self.assertTrue(can_be(lengths, pin, least), (lengths, pin))
                self.assertTrue(can_be(lengths, pin, greatest), (lengths, pin))
                if least > -1:
                    self.assertFalse(can_be(lengths, pin, least - LITTLE), (lengths, pin))
                if greatest < 1:
                    self.assertFalse(can_be(lengths, pin, greatest + LITTLE), (lengths, pin))

    def test_whole_just_where_full(self):
        for lengths in itertools.product(range(1, 8), repeat=4):
            for pin in range(4):
                whole = range_of(*lengths, pin) == [0, 4, -1, 1, 1, 1]
                self.assertEqual(whole, full(*lengths, pin) == [1], (lengths, pin))

    def test_none_just_where_there_is_no_figure(self):
        for lengths in itertools.product(range(1, 8), repeat=4):
            none = ranges(*lengths) == [[-2]] * 4
            self.assertEqual(none, kind(*lengths) == [0], lengths)

    def test_enlarged_alike(self):
        for lengths in itertools.product(range(1, 6), repeat=4):
            for times in (2, 3, 999 // max(lengths)):
                larger = [times * length for length in lengths]
                self.assertEqual(ranges(*larger), ranges(*lengths), lengths)

    def test_told_the_other_way_round(self):
        rows = itertools.chain(itertools.product(range(1, 7), repeat=4), LARGE)
        for g, a, c, r in rows:
            self.assertEqual(ranges(g, r, c, a), ranges(g, a, c, r)[::-1], (g, a, c, r))


class Wrong(unittest.TestCase):
    def test_wrong_ahead_of_no_figure(self):
        self.assertEqual(range_of(999, 1, 1, 1, 3), [-2])
        self.assertEqual(range_of(999, 1, 1, 1, 4), [-1])
        self.assertEqual(range_of(1000, 1, 1, 1, 0), [-1])
        self.assertEqual(range_of(9, 0, 1, 1, 0), [-1])


if __name__ == "__main__":
    unittest.main()
