"""full: whether every angle can be at a pin."""

import itertools
import unittest
from fractions import Fraction

from fourbars.linkage import full, kind

MOST = 9223372036854775807
COSINES = [Fraction(n, 4) for n in range(-4, 5)]


def fulls(*lengths):
    return [full(*lengths, pin) for pin in range(4)]


def bars_at(lengths, pin):
    """The two bars at a pin and the two others, by the pins' names."""
    g, a, c, r = lengths
    return {0: (g, a, c, r), 1: (a, c, g, r), 2: (c, r, g, a), 3: (r, g, a, c)}[pin]


def can_be(lengths, pin, cosine):
    """Do the two other bars span the way between the far ends of the two?"""
    one, two, three, four = bars_at(lengths, pin)
    square = one * one + two * two - 2 * one * two * cosine
    return (three - four) ** 2 <= square <= (three + four) ** 2


class Ordinary(unittest.TestCase):
    def check(self, answers, *lengths):
        with self.subTest(lengths=lengths):
            self.assertEqual(fulls(*lengths), [[answer] for answer in answers])

    def test_ground_shortest(self):
        self.check([1, 0, 0, 1], 1, 3, 4, 5)
        self.check([1, 0, 0, 1], 2, 4, 4, 3)

    def test_crank_shortest(self):
        self.check([1, 1, 0, 0], 4, 1, 3, 5)
        self.check([1, 1, 0, 0], 4, 2, 3, 4)

    def test_coupler_shortest(self):
        self.check([0, 1, 1, 0], 5, 3, 1, 4)
        self.check([0, 1, 1, 0], 2, 2, 1, 2)

    def test_rocker_shortest(self):
        self.check([0, 0, 1, 1], 3, 5, 4, 1)
        self.check([0, 0, 1, 1], 4, 4, 3, 2)

    def test_just_as_much(self):
        self.check([1, 0, 0, 1], 1, 2, 4, 3)
        self.check([1, 1, 0, 0], 4, 1, 2, 3)
        self.check([0, 1, 1, 0], 3, 4, 1, 2)
        self.check([0, 0, 1, 1], 2, 3, 4, 1)

    def test_just_as_much_with_equal_lengths(self):
        self.check([1, 1, 1, 1], 1, 1, 1, 1)
        self.check([1, 1, 1, 1], 3, 1, 3, 1)
        self.check([1, 1, 1, 1], 1, 3, 1, 3)
        self.check([1, 1, 0, 1], 1, 1, 3, 3)
        self.check([1, 1, 1, 0], 3, 1, 1, 3)
        self.check([0, 1, 1, 1], 3, 3, 1, 1)
        self.check([1, 0, 1, 1], 1, 3, 3, 1)

    def test_more(self):
        for lengths in itertools.permutations((2, 3, 4, 6)):
            self.check([0, 0, 0, 0], *lengths)
        for lengths in itertools.permutations((2, 2, 2, 3)):
            self.check([0, 0, 0, 0], *lengths)

    def test_one_figure_in_line(self):
        for lengths in itertools.permutations((9, 2, 3, 4)):
            self.check([0, 0, 0, 0], *lengths)
        for lengths in itertools.permutations((3, 1, 1, 1)):
            self.check([0, 0, 0, 0], *lengths)

    def test_no_figure(self):
        for lengths in itertools.permutations((10, 2, 3, 4)):
            self.check([-2, -2, -2, -2], *lengths)


class Edges(unittest.TestCase):
    def test_longest_about_the_three_others(self):
        self.assertEqual(fulls(19, 5, 6, 7), [[-2]] * 4)
        self.assertEqual(fulls(18, 5, 6, 7), [[0]] * 4)
        self.assertEqual(fulls(17, 5, 6, 7), [[0]] * 4)

    def test_longest_and_shortest_about_the_two_others(self):
        self.assertEqual(fulls(7, 3, 8, 13), [[0], [0], [0], [0]])
        self.assertEqual(fulls(7, 3, 8, 12), [[1], [1], [0], [0]])
        self.assertEqual(fulls(7, 3, 8, 11), [[1], [1], [0], [0]])

    def test_least_and_greatest_lengths(self):
        self.assertEqual(fulls(999, 1, 999, 999), [[1], [1], [0], [0]])
        self.assertEqual(fulls(999, 999, 999, 999), [[1], [1], [1], [1]])
        self.assertEqual(fulls(999, 998, 1, 1), [[0], [0], [0], [0]])
        self.assertEqual(fulls(999, 997, 1, 1), [[0], [0], [0], [0]])
        self.assertEqual(fulls(999, 996, 1, 1), [[-2], [-2], [-2], [-2]])

    def test_a_figure_at_each_angle(self):
        for lengths in itertools.product(range(1, 7), repeat=4):
            if kind(*lengths) == [0]:
                self.assertEqual(fulls(*lengths), [[-2]] * 4, lengths)
                continue
            for pin in range(4):
                every = all(can_be(lengths, pin, cosine) for cosine in COSINES)
                self.assertEqual(full(*lengths, pin), [int(every)], (lengths, pin))

    def test_just_the_pins_of_the_shortest_bar(self):
        pins = {2: (0, 3), 3: (0, 1), 4: (1, 2), 5: (2, 3), 1: (), 7: ()}
        for lengths in itertools.product(range(1, 8), repeat=4):
            number = kind(*lengths)[0]
            if number in pins:
                told = [pin for pin in range(4) if full(*lengths, pin) == [1]]
                self.assertEqual(told, list(pins[number]), lengths)

    def test_enlarged_alike(self):
        for lengths in itertools.product(range(1, 6), repeat=4):
            for times in (2, 999 // max(lengths)):
                larger = [times * length for length in lengths]
                self.assertEqual(fulls(*larger), fulls(*lengths), lengths)

    def test_told_the_other_way_round(self):
        for g, a, c, r in itertools.product(range(1, 7), repeat=4):
            self.assertEqual(fulls(g, r, c, a), fulls(g, a, c, r)[::-1], (g, a, c, r))


class Wrong(unittest.TestCase):
    def test_wrong_ahead_of_no_figure(self):
        self.assertEqual(full(999, 1, 1, 1, 3), [-2])
        self.assertEqual(full(999, 1, 1, 1, 4), [-1])
        self.assertEqual(full(999, 1, 1, 1, MOST), [-1])
        self.assertEqual(full(1000, 1, 1, 1, 0), [-1])
        self.assertEqual(full(9, 0, 1, 1, 0), [-1])


if __name__ == "__main__":
    unittest.main()
