"""drive: the side on which D is when the crank has been turned."""

import collections
import itertools
import math
import random
import unittest
from fractions import Fraction

from fourbars.linkage import circuit, drive, kind

MOST = 9223372036854775807
RIGHT, LEFT = 0, 1
# Lengths of each kind that has figures.
OF_KIND = {
    1: (9, 2, 3, 4), 2: (1, 3, 4, 5), 3: (4, 1, 3, 5), 4: (5, 3, 1, 4), 5: (3, 5, 4, 1), 6: (4, 1, 2, 3), 7: (2, 3, 4, 6),
}


def around(many):
    """Places all round, each direction once, by rising angles up to half a turn."""
    places = [(p, q) for p in range(-many, many + 1) for q in range(1, many + 1) if math.gcd(p, q) == 1]
    return sorted(places, key=lambda place: Fraction(*place)) + [(1, 0)]


PLACES = around(9)


def what_is_at(lengths, place):
    """What is at a place: a figure on either side, one alone, none, or C at B."""
    g, a, c, r = lengths
    p, q = place
    times = q * q + p * p
    way = (a * (q * q - p * p) - g * times) ** 2 + (a * 2 * p * q) ** 2
    least, greatest = (c - r) ** 2 * times ** 2, (c + r) ** 2 * times ** 2
    if way == 0 and c == r:
        return "at B"
    if not least <= way <= greatest:
        return "none"
    return "one" if way in (least, greatest) else "two"


def walk(at, begin, end, left):
    """What is at the places behind the beginning, one by one, to the end."""
    place = begin
    while place != end:
        place = (place + (1 if left else -1)) % len(at)
        yield at[place]


def walked(at, begin, end, left, s):
    """The answer, by going through the places step by step."""
    if at[begin] in ("none", "at B"):
        return [-3]
    way = list(walk(at, begin, end, left))
    if "none" in way:
        return [-4]
    if "one" in way[:-1] or "at B" in way:
        return [-5]
    return [0] if at[end] == "one" else [s]


class Ordinary(unittest.TestCase):
    def check(self, lengths, *rows):
        """Each row: from where, to which hand, to where, and the answers for s 0 and 1."""
        for begin, left, end, *answers in rows:
            with self.subTest(lengths=lengths, row=(begin, left, end)):
                told = [drive(*lengths, *begin, s, left, *end) for s in (0, 1)]
                self.assertEqual(told, [[answer] for answer in answers])

    def test_crank_that_turns_all_round(self):
        for lengths in (OF_KIND[3], OF_KIND[2]):
            self.check(
                lengths,
                ((1, 2), LEFT, (2, 1), 0, 1), ((1, 2), RIGHT, (2, 1), 0, 1),
                ((2, 1), LEFT, (1, 2), 0, 1), ((2, 1), RIGHT, (1, 2), 0, 1),
                ((-1, 2), LEFT, (1, 2), 0, 1), ((-1, 2), RIGHT, (1, 2), 0, 1),
                ((0, 1), LEFT, (1, 0), 0, 1), ((0, 1), RIGHT, (1, 0), 0, 1),
                ((1, 99), LEFT, (1, 98), 0, 1), ((1, 99), RIGHT, (1, 98), 0, 1),
            )

    def test_coupler_shortest(self):
        # The crank swings above the ground's line or below it, never over it.
        self.check(
            OF_KIND[4],
            ((1, 2), LEFT, (3, 5), 0, 1), ((3, 5), RIGHT, (1, 2), 0, 1),
            ((1, 2), RIGHT, (3, 5), -4, -4), ((3, 5), LEFT, (1, 2), -4, -4),
            ((-1, 2), RIGHT, (-3, 5), 0, 1), ((-3, 5), LEFT, (-1, 2), 0, 1),
            ((1, 2), RIGHT, (-1, 2), -4, -4), ((1, 2), LEFT, (-1, 2), -4, -4),
            ((1, 2), LEFT, (1, 1), -4, -4), ((1, 1), RIGHT, (1, 2), -3, -3), ((1, 2), RIGHT, (0, 1), -4, -4),
        )

    def test_rocker_shortest(self):
        self.check(
            OF_KIND[5],
            ((1, 3), LEFT, (2, 5), 0, 1), ((2, 5), RIGHT, (1, 3), 0, 1),
            ((1, 3), RIGHT, (2, 5), -4, -4), ((2, 5), LEFT, (1, 3), -4, -4),
            ((1, 3), RIGHT, (-1, 3), -4, -4), ((1, 3), LEFT, (-1, 3), -4, -4),
            ((1, 3), LEFT, (1, 1), -4, -4), ((1, 1), RIGHT, (1, 3), -3, -3), ((-1, 3), LEFT, (0, 1), -4, -4),
        )

    def test_just_as_much(self):
        # With C away from B, coupler and rocker only just reach.
        self.check(
            OF_KIND[6],
            ((1, 2), LEFT, (2, 1), 0, 1), ((1, 2), RIGHT, (2, 1), -5, -5),
            ((1, 2), RIGHT, (-1, 2), 0, 1), ((1, 2), LEFT, (-1, 2), -5, -5),
            ((-2, 1), LEFT, (2, 1), 0, 1), ((-2, 1), RIGHT, (2, 1), -5, -5),
        )

    def test_more(self):
        # The crank turns over half a turn, and not over 0.
        self.check(
            OF_KIND[7],
            ((1, 1), LEFT, (-1, 1), 0, 1), ((1, 1), RIGHT, (-1, 1), -4, -4),
            ((-1, 1), RIGHT, (1, 1), 0, 1), ((-1, 1), LEFT, (1, 1), -4, -4),
            ((1, 1), LEFT, (1, 0), 0, 1), ((1, 0), LEFT, (-1, 1), 0, 1), ((1, 0), RIGHT, (-1, 1), -4, -4),
            ((1, 1), RIGHT, (0, 1), -4, -4), ((0, 1), LEFT, (1, 1), -3, -3),
        )
        # Here it turns over 0, and not over half a turn.
        self.check(
            (4, 3, 3, 3),
            ((1, 2), RIGHT, (-1, 2), 0, 1), ((1, 2), LEFT, (-1, 2), -4, -4),
            ((-1, 2), LEFT, (0, 1), 0, 1), ((0, 1), LEFT, (1, 2), 0, 1), ((0, 1), RIGHT, (1, 2), -4, -4),
        )

    def test_one_figure_in_line(self):
        self.check(
            OF_KIND[1],
            ((0, 1), LEFT, (0, 1), 0, 0), ((0, 1), RIGHT, (0, -7), 0, 0), ((0, 1), LEFT, (1, 0), -4, -4),
            ((0, 1), LEFT, (1, 99), -4, -4), ((0, 1), RIGHT, (1, 99), -4, -4), ((1, 99), RIGHT, (0, 1), -3, -3),
        )
        self.check((2, 3, 9, 4), ((1, 0), LEFT, (-5, 0), 0, 0), ((1, 0), LEFT, (99, 1), -4, -4))

    def test_no_figure(self):
        for lengths in itertools.permutations((10, 2, 3, 4)):
            self.check(lengths, ((1, 1), LEFT, (1, 1), -3, -3), ((0, 1), LEFT, (1, 0), -3, -3))

    def test_to_its_own_direction(self):
        for lengths, place in (
            (OF_KIND[2], (1, 2)), (OF_KIND[3], (-1, 2)), (OF_KIND[4], (1, 2)), (OF_KIND[5], (-1, 3)),
            (OF_KIND[6], (1, 2)), (OF_KIND[7], (1, 2)),
        ):
            for times, left in itertools.product((1, 2, 33, -1, -2, -33), (LEFT, RIGHT)):
                end = (times * place[0], times * place[1])
                self.check(lengths, (place, left, end, 0, 1), (end, left, place, 0, 1))
        for left in (LEFT, RIGHT):
            self.check(OF_KIND[6], ((0, 1), left, (0, -99), 0, 1), ((-1, 0), left, (99, 0), 0, 0))
            self.check(OF_KIND[7], ((1, 0), left, (-99, 0), 0, 1), ((0, 1), left, (0, 1), -3, -3))

    def test_not_in_lowest_terms(self):
        for lengths in OF_KIND.values():
            for begin, end in itertools.permutations(((1, 2), (-1, 2), (2, 1), (1, 0), (0, 1)), 2):
                for s, left, times, other in itertools.product((0, 1), (0, 1), (3, -1, -7), (1, 49, -49)):
                    answer = drive(*lengths, *begin, s, left, *end)
                    begun = (times * begin[0], times * begin[1])
                    ended = (other * end[0], other * end[1])
                    self.assertEqual(drive(*lengths, *begun, s, left, *ended), answer, (lengths, begin, end))


class Edges(unittest.TestCase):
    check = Ordinary.check

    def test_begun_or_ended_where_the_circles_touch(self):
        # Ground and crank are 4 and 3: at right angles, C is at 5 from B.
        for lengths in ((4, 3, 1, 4), (4, 3, 4, 1), (4, 3, 2, 3)):
            self.check(
                lengths,
                ((1, 1), RIGHT, (1, 2), 0, 1), ((1, 2), LEFT, (1, 1), 0, 0), ((1, 1), LEFT, (2, 2), 0, 0),
                ((-1, 1), LEFT, (-1, 2), 0, 1), ((-1, 2), RIGHT, (-1, 1), 0, 0), ((-1, 1), RIGHT, (1, -1), 0, 0),
                ((1, 1), LEFT, (1, 2), -4, -4), ((1, 2), RIGHT, (1, 1), -4, -4),
                ((1, 1), LEFT, (99, 98), -4, -4), ((99, 98), RIGHT, (1, 1), -3, -3),
                ((1, 2), LEFT, (99, 98), -4, -4), ((1, 2), LEFT, (98, 99), 0, 1),
                ((1, 1), LEFT, (-1, 1), -4, -4),
            )
        # Here 12 and 5: C is at 13, as near as coupler and rocker can hold it.
        for lengths in ((12, 5, 1, 14), (12, 5, 14, 1), (12, 5, 7, 20)):
            self.check(
                lengths,
                ((1, 1), LEFT, (9, 8), 0, 1), ((9, 8), RIGHT, (1, 1), 0, 0), ((1, 1), RIGHT, (-2, -2), 0, 0),
                ((1, 1), RIGHT, (9, 8), -4, -4), ((9, 8), RIGHT, (98, 99), -4, -4), ((98, 99), LEFT, (9, 8), -3, -3),
                ((1, 1), RIGHT, (-1, 1), -4, -4),
            )

    def test_begun_and_ended_where_the_circles_touch(self):
        # As far away as can be at both, then as near as can be.
        self.check((8, 6, 5, 5), ((1, 1), RIGHT, (-1, 1), 0, 0), ((-1, 1), LEFT, (1, 1), 0, 0))
        self.check((12, 5, 7, 20), ((1, 1), LEFT, (-1, 1), 0, 0), ((-1, 1), RIGHT, (1, 1), 0, 0))
        self.check((1, 3, 1, 3), ((0, 1), LEFT, (1, 0), 0, 0), ((1, 0), LEFT, (0, 1), 0, 0))
        self.check((1, 3, 1, 3), ((0, 1), LEFT, (99, 1), 0, 1), ((1, 0), RIGHT, (1, 99), 0, 1))

    def test_touching_in_between_where_c_is_away_from_b(self):
        for lengths in ((4, 1, 2, 3), (2, 2, 1, 3), (1, 2, 2, 1), (998, 1, 1, 998)):
            self.check(
                lengths,
                ((9, 1), LEFT, (-9, 1), -5, -5), ((-9, 1), RIGHT, (9, 1), -5, -5),
                ((9, 1), LEFT, (1, 0), 0, 0), ((-9, 1), RIGHT, (1, 0), 0, 0),
                ((1, 0), LEFT, (-9, 1), 0, 1), ((1, 0), RIGHT, (9, 1), 0, 1),
                ((99, 1), LEFT, (-99, 1), -5, -5), ((99, 1), RIGHT, (98, 1), 0, 1),
            )
        self.check((4, 1, 2, 3), ((9, 1), RIGHT, (-9, 1), 0, 1), ((-9, 1), RIGHT, (-8, 1), -5, -5))
        # As far away as this, C can't be; or it can be farther.
        self.check((4, 2, 2, 3), ((1, 2), LEFT, (-1, 2), -4, -4), ((1, 2), LEFT, (1, 0), -4, -4))
        self.check((999, 999, 999, 999), ((1, 99), LEFT, (-1, 99), -5, -5), ((1, 99), LEFT, (1, 0), 0, 0))
        self.check((999, 998, 998, 999), ((1, 99), LEFT, (-1, 99), -5, -5))
        self.check((999, 998, 999, 999), ((1, 99), LEFT, (-1, 99), 0, 1))
        self.check((999, 999, 999, 998), ((1, 9), LEFT, (-1, 9), -4, -4))

    def test_touching_in_between_where_c_is_next_to_b(self):
        for lengths in ((5, 1, 2, 6), (1, 5, 6, 2), (3, 1, 4, 2)):
            self.check(
                lengths,
                ((-1, 9), LEFT, (1, 9), -5, -5), ((1, 9), RIGHT, (-1, 9), -5, -5),
                ((-1, 9), LEFT, (0, 1), 0, 0), ((1, 9), RIGHT, (0, -1), 0, 0),
                ((0, 1), LEFT, (1, 9), 0, 1), ((0, 1), RIGHT, (-1, 9), 0, 1),
                ((-1, 99), LEFT, (1, 99), -5, -5), ((1, 99), LEFT, (1, 98), 0, 1),
            )
        self.check((5, 2, 2, 6), ((-1, 1), LEFT, (1, 1), -4, -4), ((-1, 1), LEFT, (0, 1), -4, -4))
        self.check((999, 1, 1, 999), ((-1, 1), LEFT, (1, 1), -5, -5), ((-1, 1), LEFT, (0, 1), 0, 0))
        self.check((999, 2, 1, 999), ((-1, 1), LEFT, (1, 1), -4, -4))
        self.check((999, 1, 2, 999), ((-1, 1), LEFT, (1, 1), 0, 1))

    def test_touching_in_between_both_times(self):
        # Coupler and rocker are as long as ground and crank.
        self.check(
            (3, 1, 3, 1),
            ((1, 2), LEFT, (-1, 2), -5, -5), ((1, 2), RIGHT, (-1, 2), -5, -5), ((1, 2), LEFT, (1, 3), -5, -5),
            ((1, 2), LEFT, (1, 0), 0, 0), ((1, 2), RIGHT, (0, 1), 0, 0), ((1, 2), RIGHT, (1, 0), -5, -5),
            ((1, 0), LEFT, (1, 2), -5, -5), ((1, 0), RIGHT, (1, 2), 0, 1),
        )

    def test_c_comes_to_b_with_coupler_and_rocker_of_one_length(self):
        for lengths in ((2, 2, 3, 3), (1, 1, 999, 999), (3, 3, 2, 2), (999, 999, 999, 999)):
            self.check(
                lengths,
                ((-1, 9), LEFT, (1, 9), -5, -5), ((1, 9), RIGHT, (-1, 9), -5, -5),
                ((-1, 9), LEFT, (0, 1), -5, -5), ((1, 9), RIGHT, (0, -99), -5, -5),
                ((0, 1), LEFT, (1, 9), -3, -3), ((0, 1), RIGHT, (0, 1), -3, -3), ((0, -3), LEFT, (1, 0), -3, -3),
                ((1, 9), LEFT, (1, 8), 0, 1), ((-1, 99), RIGHT, (-1, 98), 0, 1),
            )
        self.check((2, 2, 3, 3), ((1, 9), LEFT, (-1, 9), 0, 1), ((1, 9), LEFT, (0, 1), -5, -5))
        self.check((2, 2, 2, 2), ((1, 9), LEFT, (-1, 9), -5, -5), ((1, 9), LEFT, (0, 1), -5, -5))

    def test_c_comes_to_b_with_coupler_and_rocker_of_other_lengths(self):
        for lengths in ((3, 3, 2, 4), (3, 3, 4, 2), (999, 999, 998, 999)):
            self.check(
                lengths,
                ((-1, 1), LEFT, (1, 1), -4, -4), ((1, 1), RIGHT, (-1, 1), -4, -4),
                ((-1, 1), LEFT, (0, 1), -4, -4), ((1, 1), RIGHT, (0, -99), -4, -4),
                ((0, 1), LEFT, (1, 1), -3, -3), ((0, 1), RIGHT, (0, 1), -3, -3),
            )

    def test_no_figure_at_first_ahead_of_none_on_the_way(self):
        self.check((5, 3, 1, 4), ((1, 1), LEFT, (1, 1), -3, -3), ((1, 1), LEFT, (2, 1), -3, -3))
        self.check((3, 3, 2, 2), ((0, 1), LEFT, (1, 0), -3, -3), ((1, 0), LEFT, (0, 1), -3, -3))
        self.check((3, 3, 2, 4), ((0, 1), LEFT, (0, 1), -3, -3))

    def test_none_on_the_way_ahead_of_either_side(self):
        # Over 0 the circles touch, or C is at B; half a turn is out of reach.
        self.check((3, 4, 1, 2), ((-1, 9), LEFT, (1, 9), -5, -5), ((-1, 9), LEFT, (1, 0), -4, -4))
        self.check((3, 4, 1, 2), ((-1, 9), LEFT, (9, 1), -4, -4), ((-1, 9), LEFT, (-1, 8), -4, -4))
        self.check((3, 3, 2, 2), ((-1, 9), LEFT, (1, 0), -4, -4), ((-1, 9), LEFT, (9, 1), -4, -4))
        self.check((3, 3, 2, 2), ((1, 9), LEFT, (0, 1), -4, -4), ((1, 9), LEFT, (-1, 9), -4, -4))
        # Over half a turn they touch; 0 is too near.
        self.check((2, 3, 1, 4), ((1, 0), LEFT, (1, 0), 0, 0), ((9, 1), LEFT, (0, 1), -4, -4))

    def test_farthest_places(self):
        self.check(
            OF_KIND[3],
            ((99, 99), LEFT, (-99, 99), 0, 1), ((99, -99), RIGHT, (-99, -99), 0, 1),
            ((99, 1), LEFT, (-99, 1), 0, 1), ((1, 99), RIGHT, (-1, 99), 0, 1),
            ((99, 0), LEFT, (0, 99), 0, 1), ((-99, 0), LEFT, (0, -99), 0, 1),
        )
        self.check(OF_KIND[6], ((99, 98), LEFT, (98, 99), -5, -5), ((98, 99), LEFT, (99, 98), 0, 1))
        self.check(OF_KIND[6], ((99, 98), RIGHT, (98, 99), 0, 1), ((98, 99), RIGHT, (99, 98), -5, -5))

    def test_least_and_greatest_lengths(self):
        self.check((999, 1, 999, 999), ((1, 99), RIGHT, (1, 98), 0, 1), ((1, 99), LEFT, (1, 98), 0, 1))
        self.check((999, 997, 1, 1), ((0, 1), LEFT, (0, 1), 0, 0), ((0, 1), LEFT, (1, 99), -4, -4))
        self.check((999, 996, 1, 1), ((0, 1), LEFT, (0, 1), -3, -3))


class StepByStep(unittest.TestCase):
    def test_as_the_places_on_the_way_are(self):
        chosen = random.Random(9)
        seen = collections.Counter()
        for lengths in itertools.product(range(1, 6), repeat=4):
            at = [what_is_at(lengths, place) for place in PLACES]
            for turn in range(60):
                begin, end = chosen.randrange(len(at)), chosen.randrange(len(at))
                for s, left in itertools.product((0, 1), (0, 1)):
                    answer = drive(*lengths, *PLACES[begin], s, left, *PLACES[end])
                    row = (lengths, PLACES[begin], s, left, PLACES[end])
                    self.assertEqual(answer, walked(at, begin, end, left, s), row)
                    seen[kind(*lengths)[0], answer[0]] += 1
        for number, answers in {2: (0, 1), 3: (0, 1), 6: (0, 1, -3, -4, -5), 7: (0, 1, -3, -4)}.items():
            for answer in answers:
                self.assertGreater(seen[number, answer], 20, (number, answer))

    def test_each_place_between_has_its_figure(self):
        # D4: and all of them are of one circuit, so that each is near the next.
        chosen = random.Random(4)
        for lengths in itertools.product(range(1, 6), repeat=4):
            for turn in range(4):
                begin, end = chosen.sample(range(len(PLACES)), 2)
                s, left = chosen.randrange(2), chosen.randrange(2)
                answer = drive(*lengths, *PLACES[begin], s, left, *PLACES[end])
                if answer[0] >= 0:
                    first = circuit(*lengths, *PLACES[begin], s)
                    sides = [s] * (len(list(walk(PLACES, begin, end, left))) - 1) + answer
                    for place, side in zip(walk(PLACES, begin, end, left), sides):
                        self.assertEqual(circuit(*lengths, *place, side), first, (lengths, begin, s, left, end))

    def test_there_and_back(self):
        for lengths in itertools.product(range(1, 5), repeat=4):
            for begin, end in itertools.combinations(((0, 1), (1, 3), (1, 1), (3, 1), (1, 0), (-2, 1), (-1, 2)), 2):
                for s, left in itertools.product((0, 1), (0, 1)):
                    there = drive(*lengths, *begin, s, left, *end)
                    back = drive(*lengths, *end, s, 1 - left, *begin)
                    if there == [s] and what_is_at(lengths, end) == "two":
                        at_begin = what_is_at(lengths, begin)
                        self.assertEqual(back, [0] if at_begin == "one" else [s], (lengths, begin, end, s, left))

    def test_mirrored(self):
        for lengths in itertools.product(range(1, 5), repeat=4):
            for begin, end in itertools.permutations(((0, 1), (1, 3), (1, 1), (3, 1), (1, 0), (-2, 1), (-1, 2)), 2):
                for left in (0, 1):
                    answers = [drive(*lengths, *begin, s, left, *end) for s in (0, 1)]
                    other = [drive(*lengths, -begin[0], begin[1], s, 1 - left, -end[0], end[1]) for s in (0, 1)]
                    self.assertEqual(other, answers, (lengths, begin, left, end))


class Wrong(unittest.TestCase):
    def test_wrong_ahead_of_what_the_way_is(self):
        self.assertEqual(drive(5, 3, 1, 4, 1, 1, 0, 1, 1, 2), [-3])
        self.assertEqual(drive(5, 3, 1, 4, 1, 1, 0, 2, 1, 2), [-1])
        self.assertEqual(drive(5, 3, 1, 4, 1, 1, 0, 1, 0, 0), [-1])
        self.assertEqual(drive(5, 3, 1, 4, 1, 2, 0, 1, 1, 1), [-4])
        self.assertEqual(drive(5, 3, 1, 4, 1, 2, 2, 1, 1, 1), [-1])
        self.assertEqual(drive(5, 3, 1, 4, 1, 2, 0, 1, 100, 1), [-1])
        self.assertEqual(drive(5, 3, 1, 4, 1, 2, 0, 1, 1, -MOST), [-1])
        self.assertEqual(drive(4, 1, 2, 3, 9, 1, 0, 1, -9, 1), [-5])
        self.assertEqual(drive(4, 1, 2, 3, 9, 1, 0, MOST, -9, 1), [-1])
        self.assertEqual(drive(4, 1, 2, 3, 0, 0, 0, 1, -9, 1), [-1])


if __name__ == "__main__":
    unittest.main()
