"""circuit: which circuit a figure is of, told by the crank's place and a side."""

import itertools
import math
import unittest
from fractions import Fraction

from fourbars.linkage import circuit, circuits, kind

MOST = 9223372036854775807


def sides(lengths, p, q):
    """What is answered at the place, for the side 0 and the side 1."""
    return [circuit(*lengths, p, q, s) for s in (0, 1)]


def around(many):
    """Places all round, each direction once, by rising angles up to half a turn."""
    places = [(p, q) for p in range(-many, many + 1) for q in range(1, many + 1) if math.gcd(p, q) == 1]
    return sorted(places, key=lambda place: Fraction(*place)) + [(1, 0)]


def squares(lengths, place):
    """The squares of the least, this and the greatest way from C to B, alike enlarged."""
    g, a, c, r = lengths
    p, q = place
    times = q * q + p * p
    x, y = a * (q * q - p * p) - g * times, a * 2 * p * q
    return (c - r) ** 2 * times ** 2, x * x + y * y, (c + r) ** 2 * times ** 2


class Ordinary(unittest.TestCase):
    def check(self, lengths, *rows):
        """Each row: p, q and what is answered for the side 0 and the side 1."""
        for p, q, *answers in rows:
            with self.subTest(lengths=lengths, place=(p, q)):
                self.assertEqual(sides(lengths, p, q), [[answer] for answer in answers])

    def test_crank_shortest(self):
        self.check((4, 1, 3, 5), (1, 2, 0, 1), (-1, 2, 0, 1), (5, 1, 0, 1), (1, -5, 0, 1), (0, 1, 0, 1), (1, 0, 0, 1))

    def test_ground_shortest(self):
        self.check((1, 3, 4, 5), (1, 2, 0, 1), (-1, 2, 0, 1), (5, 1, 0, 1), (1, -5, 0, 1), (0, 1, 0, 1), (1, 0, 0, 1))

    def test_coupler_shortest(self):
        # C at right angles to the ground is at sqrt 34 from B: too far.
        self.check((5, 3, 1, 4), (1, 2, 0, 0), (-1, 2, 1, 1), (1, -2, 1, 1), (-1, -2, 0, 0), (1, 1, -3, -3))
        self.check((5, 3, 1, 4), (0, 1, -3, -3), (1, 0, -3, -3), (-1, 1, -3, -3), (-97, -99, -3, -3))

    def test_rocker_shortest(self):
        self.check((3, 5, 4, 1), (1, 3, 0, 0), (-1, 3, 1, 1), (2, -5, 1, 1), (-2, -5, 0, 0), (1, 1, -3, -3))
        self.check((3, 5, 4, 1), (0, 1, -3, -3), (1, 0, -3, -3), (0, -7, -3, -3), (-3, 0, -3, -3))

    def test_just_as_much(self):
        self.check((4, 1, 2, 3), (1, 2, 0, 0), (-1, 2, 0, 0), (0, 1, 0, 0), (1, 0, 0, 0), (-7, -3, 0, 0))
        self.check((1, 2, 4, 3), (1, 2, 0, 0), (-1, 2, 0, 0), (0, 1, 0, 0), (1, 0, 0, 0), (-7, -3, 0, 0))
        self.check((3, 4, 1, 2), (1, 3, 0, 0), (-1, 3, 0, 0), (0, 1, 0, 0), (1, 0, -3, -3), (-7, -3, -3, -3))

    def test_more(self):
        self.check((2, 3, 4, 6), (1, 1, 0, 0), (-1, 1, 0, 0), (1, -9, -3, -3), (0, 1, -3, -3), (5, 0, 0, 0))
        self.check((2, 2, 2, 3), (1, 2, 0, 0), (-1, 2, 0, 0), (0, 1, -3, -3), (1, 0, 0, 0))

    def test_one_figure_in_line(self):
        self.check((9, 2, 3, 4), (0, 1, 0, 0), (0, -99, 0, 0), (1, 0, -3, -3), (1, 99, -3, -3), (-1, 99, -3, -3))
        self.check((2, 9, 3, 4), (0, 1, 0, 0), (0, -99, 0, 0), (1, 0, -3, -3), (1, 99, -3, -3), (-1, 99, -3, -3))
        self.check((2, 3, 9, 4), (1, 0, 0, 0), (-99, 0, 0, 0), (0, 1, -3, -3), (99, 1, -3, -3), (99, -1, -3, -3))
        self.check((2, 3, 4, 9), (1, 0, 0, 0), (-99, 0, 0, 0), (0, 1, -3, -3), (99, 1, -3, -3), (99, -1, -3, -3))

    def test_no_figure(self):
        for lengths in itertools.permutations((10, 2, 3, 4)):
            for p, q in ((0, 1), (1, 0), (1, 1), (-2, 3), (99, -99)):
                self.assertEqual(sides(lengths, p, q), [[-3], [-3]], (lengths, p, q))

    def test_not_in_lowest_terms(self):
        for lengths in ((4, 1, 3, 5), (1, 3, 4, 5), (5, 3, 1, 4), (3, 5, 4, 1), (4, 1, 2, 3), (2, 3, 4, 6)):
            for p, q in itertools.product(range(-3, 4), repeat=2):
                if (p, q) != (0, 0):
                    for times in (2, 7, 33, -1, -5, -33):
                        self.assertEqual(sides(lengths, times * p, times * q), sides(lengths, p, q), (lengths, p, q))


class Edges(unittest.TestCase):
    def test_touching_from_outside(self):
        # Ground and crank are 4 and 3: at right angles, C is at 5 from B.
        for lengths, above, below in (((4, 3, 1, 4), 0, 1), ((4, 3, 4, 1), 0, 1), ((4, 3, 2, 3), 0, 0)):
            with self.subTest(lengths=lengths):
                self.assertEqual(sides(lengths, 1, 1), [[above], [above]])
                self.assertEqual(sides(lengths, 98, 99), [[above], [above]])
                self.assertEqual(sides(lengths, 99, 98), [[-3], [-3]])
                self.assertEqual(sides(lengths, -99, 99), [[below], [below]])
                self.assertEqual(sides(lengths, -98, 99), [[below], [below]])
                self.assertEqual(sides(lengths, -99, 98), [[-3], [-3]])

    def test_touching_from_within(self):
        # Ground and crank are 12 and 5: at right angles, C is at 13 from B.
        for lengths, above, below in (((12, 5, 1, 14), 0, 1), ((12, 5, 14, 1), 0, 1), ((12, 5, 7, 20), 0, 0)):
            with self.subTest(lengths=lengths):
                self.assertEqual(sides(lengths, 1, 1), [[above], [above]])
                self.assertEqual(sides(lengths, 99, 98), [[above], [above]])
                self.assertEqual(sides(lengths, 98, 99), [[-3], [-3]])
                self.assertEqual(sides(lengths, 99, -99), [[below], [below]])
                self.assertEqual(sides(lengths, 99, -98), [[below], [below]])
                self.assertEqual(sides(lengths, 98, -99), [[-3], [-3]])

    def test_touching_on_the_ground_s_line(self):
        self.assertEqual(sides((4, 1, 2, 3), 1, 0), [[0], [0]])
        self.assertEqual(sides((4, 2, 2, 3), 1, 0), [[-3], [-3]])
        self.assertEqual(sides((5, 1, 2, 6), 0, 1), [[0], [0]])
        self.assertEqual(sides((5, 2, 2, 6), 0, 1), [[-3], [-3]])

    def test_c_at_b(self):
        for lengths in ((3, 3, 2, 2), (2, 2, 3, 3), (1, 1, 1, 1), (999, 999, 999, 999), (1, 1, 999, 999)):
            for q in (1, 2, 99, -1, -99):
                self.assertEqual(sides(lengths, 0, q), [[-3], [-3]], (lengths, q))
            self.assertEqual(sides(lengths, 1, 99), [[0], [0]], lengths)
            self.assertEqual(sides(lengths, -1, 99), [[0], [0]], lengths)

    def test_c_at_b_with_other_lengths_apart(self):
        for lengths in ((3, 3, 2, 4), (3, 3, 1, 2), (3, 3, 2, 1), (999, 999, 998, 999), (1, 1, 2, 1)):
            for q in (1, 2, 99, -1, -99):
                self.assertEqual(sides(lengths, 0, q), [[-3], [-3]], (lengths, q))

    def test_c_on_the_ground_s_line_but_not_at_b(self):
        self.assertEqual(sides((3, 3, 2, 2), 1, 0), [[-3], [-3]])
        self.assertEqual(sides((2, 2, 3, 3), 1, 0), [[0], [0]])
        self.assertEqual(sides((4, 3, 2, 2), 0, 1), [[0], [0]])
        self.assertEqual(sides((3, 4, 2, 2), 0, 1), [[0], [0]])

    def test_farthest_places(self):
        for p, q in ((99, 99), (-99, -99)):
            self.assertEqual(sides((4, 1, 3, 5), p, q), [[0], [1]])
            self.assertEqual(sides((4, 3, 1, 4), p, q), [[0], [0]])
        for p, q in ((99, -99), (-99, 99)):
            self.assertEqual(sides((4, 1, 3, 5), p, q), [[0], [1]])
            self.assertEqual(sides((4, 3, 1, 4), p, q), [[1], [1]])
        for p, q in ((99, 0), (-99, 0), (0, 99), (0, -99), (98, 99), (-99, 98)):
            self.assertEqual(sides((4, 1, 3, 5), p, q), [[0], [1]])

    def test_least_and_greatest_lengths(self):
        self.assertEqual(sides((999, 1, 999, 999), 1, 0), [[0], [1]])
        self.assertEqual(sides((1, 999, 999, 999), 1, 0), [[0], [1]])
        # An angle of 60 degrees, or nearly: its half has the tangent 56/97.
        self.assertEqual(sides((999, 999, 1, 999), 56, 97), [[0], [0]])
        self.assertEqual(sides((999, 999, 1, 999), 56, -97), [[1], [1]])
        self.assertEqual(sides((999, 999, 1, 999), 57, 97), [[-3], [-3]])
        self.assertEqual(sides((999, 997, 1, 1), 0, 1), [[0], [0]])
        self.assertEqual(sides((999, 997, 1, 1), 1, 99), [[-3], [-3]])
        self.assertEqual(sides((999, 996, 1, 1), 0, 1), [[-3], [-3]])

    def test_closes_just_where_the_circles_meet(self):
        for lengths in itertools.product(range(1, 6), repeat=4):
            for p, q in itertools.product(range(-3, 4), repeat=2):
                if (p, q) != (0, 0):
                    least, way, greatest = squares(lengths, (p, q))
                    there = least <= way <= greatest and way > 0
                    answers = sides(lengths, p, q)
                    self.assertEqual([-3] not in answers, there, (lengths, p, q))
                    self.assertEqual(answers == [[-3], [-3]], not there, (lengths, p, q))


class Moved(unittest.TestCase):
    """D3: figures are of one circuit just if they can be moved into one another."""

    PLACES = around(9)

    def groups(self, lengths):
        """Each figure at the places, by (place, side), with the name of its group.

        From a place to the next, the way from C to B rises or falls all along,
        so that D keeps its side where there are figures at both; where at one
        alone, the circles touch between them, and D can change its side there.
        Where C is at B, D may lie anywhere round it: its sides are joined, too.
        """
        at = [squares(lengths, place) for place in self.PLACES]
        there = [least <= way <= greatest for least, way, greatest in at]
        group = {(place, side): (place, side) for place in range(len(at)) if there[place] for side in (0, 1)}

        def join(one, other):
            first, second = group[one], group[other]
            for figure, name in group.items():
                if name == second:
                    group[figure] = first

        for place, (least, way, greatest) in enumerate(at):
            before, behind = place - 1, (place + 1) % len(at)
            if there[place]:
                if way in (least, greatest) or not there[before] or not there[behind]:
                    join((place, 0), (place, 1))
                if there[behind]:
                    join((place, 0), (behind, 0))
                    join((place, 1), (behind, 1))
        return {figure: name for figure, name in group.items() if at[figure[0]][1] > 0}

    def test_one_circuit_just_where_moved(self):
        kinds = set()
        for lengths in itertools.product(range(1, 5), repeat=4):
            group = self.groups(lengths)
            names = {}
            for (place, side), name in group.items():
                answer = circuit(*lengths, *self.PLACES[place], side)
                self.assertEqual(names.setdefault(name, answer), answer, (lengths, self.PLACES[place], side))
            told = sorted(names.values())
            self.assertEqual(told, [[number] for number in range(circuits(*lengths)[0])], lengths)
            kinds.add(kind(*lengths)[0])
        self.assertEqual(kinds, set(range(8)))

    def test_both_numbers_just_of_kinds_2_to_5(self):
        for lengths in itertools.product(range(1, 6), repeat=4):
            numbers = {circuit(*lengths, *place, side)[0] for place in self.PLACES for side in (0, 1)} - {-3}
            expected = [set(), {0}, {0, 1}, {0, 1}, {0, 1}, {0, 1}, {0}, {0}][kind(*lengths)[0]]
            self.assertEqual(numbers, expected, lengths)


class Wrong(unittest.TestCase):
    def test_wrong_ahead_of_not_closing(self):
        self.assertEqual(circuit(999, 1, 1, 1, 1, 1, 0), [-3])
        self.assertEqual(circuit(1000, 1, 1, 1, 1, 1, 0), [-1])
        self.assertEqual(circuit(999, 1, 1, 1, 100, 1, 0), [-1])
        self.assertEqual(circuit(999, 1, 1, 1, 1, -100, 0), [-1])
        self.assertEqual(circuit(999, 1, 1, 1, 0, 0, 0), [-1])
        self.assertEqual(circuit(999, 1, 1, 1, 1, 1, 2), [-1])
        self.assertEqual(circuit(2, 2, 3, 3, 0, 1, 0), [-3])
        self.assertEqual(circuit(2, 2, 3, 3, 0, 1, MOST), [-1])
        self.assertEqual(circuit(2, 2, 3, 3, 0, MOST, 0), [-1])
        self.assertEqual(circuit(2, 2, 3, 3, 0, -MOST, 0), [-1])


if __name__ == "__main__":
    unittest.main()
