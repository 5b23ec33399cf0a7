"""swing: how far the rocker swings, and the crank turns from extreme to extreme."""

import decimal
import itertools
import random
import unittest

from fourbars.linkage import kind, line, swing

MOST = 9223372036854775807
LITTLE = decimal.Decimal(10) ** -70
# Which, m and the lengths: of which there are so many 2^m-ths, and next to nothing more.
JUST_ABOVE = [
    (0, 2, (311, 197, 359, 335), 1), (0, 3, (335, 128, 303, 422), 1), (0, 4, (460, 231, 453, 466), 3),
    (0, 5, (289, 27, 445, 451), 1), (0, 6, (435, 21, 335, 499), 1), (0, 7, (461, 167, 477, 482), 17),
    (0, 8, (35, 23, 472, 476), 59), (1, 1, (468, 1, 395, 251), 1), (1, 2, (187, 129, 344, 376), 3),
    (1, 3, (463, 300, 433, 466), 5), (1, 4, (299, 108, 348, 219), 9), (1, 5, (460, 190, 357, 392), 17),
    (1, 6, (325, 267, 418, 376), 47), (1, 7, (272, 55, 301, 363), 71), (1, 8, (439, 53, 492, 156), 133),
]
# The same, and next to nothing less.
JUST_BELOW = [
    (0, 2, (325, 171, 473, 355), 1), (0, 3, (216, 35, 429, 257), 1), (0, 4, (466, 65, 407, 342), 1),
    (0, 5, (407, 83, 490, 348), 3), (0, 6, (310, 74, 340, 493), 5), (0, 7, (485, 4, 270, 248), 1),
    (0, 8, (415, 132, 388, 429), 29), (1, 1, (495, 1, 396, 297), 1), (1, 2, (248, 180, 336, 371), 3),
    (1, 3, (352, 182, 467, 319), 5), (1, 4, (285, 76, 396, 338), 9), (1, 5, (453, 261, 292, 429), 15),
    (1, 6, (418, 240, 486, 347), 39), (1, 7, (288, 107, 388, 495), 81), (1, 8, (301, 167, 392, 292), 161),
]


def swings(lengths, which):
    return [swing(*lengths, which, m) for m in range(1, 9)]


def place_of_d(g, r, far):
    """D above the ground's line, so far from A, as seen from A."""
    x = (g * g + far * far - r * r) / (2 * g)
    return x, (far * far - x * x).sqrt()


def way_turned(lengths, which):
    """Cosine and sine of the way, told 100 digits far, by where D is."""
    g, a, c, r = [decimal.Decimal(length) for length in lengths]
    x, y = place_of_d(g, r, c + a)
    x_folded, y_folded = place_of_d(g, r, c - a)
    if which == 0:
        # To the left: as seen from B, the stretched figure's D is farther to the right.
        begin, end, square = (x - g, y), (x_folded - g, y_folded), r * r
    else:
        begin, end, square = (x, y), (-x_folded, -y_folded), (c + a) * (c - a)
    return (
        (begin[0] * end[0] + begin[1] * end[1]) / square,
        (begin[0] * end[1] - begin[1] * end[0]) / square,
    )


def parts_by_doubling(lengths, which, m):
    """How many 2^m-ths the way has: digit by digit, doubling it each time."""
    with decimal.localcontext() as context:
        context.prec = 100
        cosine, sine = way_turned(lengths, which)
        parts = 0
        for turn in range(m):
            level = abs(sine) < LITTLE
            parts = 2 * parts + int(cosine < 0 if level else sine < 0)
            cosine, sine = cosine * cosine - sine * sine, 2 * cosine * (0 if level else sine)
            if abs(cosine) < LITTLE:
                cosine = decimal.Decimal(0)
        return parts


def of_kind_3(upto):
    for lengths in itertools.product(range(1, upto + 1), repeat=4):
        if kind(*lengths) == [3]:
            yield lengths


class Ordinary(unittest.TestCase):
    def check(self, lengths, which, *told):
        with self.subTest(lengths=lengths, which=which):
            self.assertEqual(swings(lengths, which), [[0, 1, number] for number in told])

    def test_rocker_s_way(self):
        self.check((4, 1, 3, 5), 0, 0, 0, 0, 1, 2, 5, 10, 20)
        self.check((4, 1, 5, 3), 0, 0, 0, 1, 2, 4, 8, 17, 35)
        self.check((3, 2, 4, 4), 0, 0, 0, 1, 3, 7, 15, 31, 62)
        self.check((5, 1, 2, 5), 0, 0, 0, 0, 1, 2, 4, 8, 16)

    def test_crank_s_way(self):
        # With the rocker longer than the coupler, more than half a turn, or less.
        self.check((4, 1, 3, 5), 1, 1, 2, 4, 9, 18, 37, 74, 149)
        self.check((4, 1, 5, 3), 1, 1, 2, 4, 8, 17, 35, 70, 140)
        self.check((3, 2, 4, 4), 1, 1, 2, 5, 11, 22, 44, 88, 176)
        self.check((5, 1, 2, 5), 1, 1, 2, 4, 8, 17, 34, 68, 136)
        self.check((9, 1, 5, 6), 1, 0, 1, 3, 7, 15, 30, 60, 121)

    def test_kind_3_alone(self):
        rows = [
            (1, 3, 4, 5), (5, 3, 1, 4), (3, 5, 4, 1), (4, 1, 2, 3), (1, 1, 1, 1), (2, 3, 4, 6), (9, 2, 3, 4),
            (10, 2, 3, 4),
        ]
        self.assertEqual([kind(*lengths)[0] for lengths in rows], [2, 4, 5, 6, 6, 7, 1, 0])
        for lengths in rows:
            for which in (0, 1):
                self.assertEqual(swings(lengths, which), [[-2]] * 8, lengths)

    def test_of_each_kind(self):
        for lengths in itertools.product(range(1, 6), repeat=4):
            for which, m in itertools.product((0, 1), (1, 5, 8)):
                answer = swing(*lengths, which, m)
                self.assertEqual(answer == [-2], kind(*lengths) != [3], (lengths, which, m))


class Edges(unittest.TestCase):
    def test_just_a_quarter_turn(self):
        quarters = [[0, 1, number] for number in (0, 1, 2, 4, 8, 16, 32, 64)]
        for lengths in ((20, 14, 51, 51), (51, 14, 51, 20), (44, 31, 66, 75), (75, 31, 66, 44), (40, 28, 102, 102)):
            self.assertEqual(swings(lengths, 0), quarters, lengths)

    def test_just_half_a_turn(self):
        halves = [[0, 1, number] for number in (1, 2, 4, 8, 16, 32, 64, 128)]
        for lengths in ((7, 1, 5, 5), (8, 1, 4, 7), (8, 1, 7, 4), (9, 2, 7, 6), (11, 2, 5, 10), (777, 111, 555, 555)):
            self.assertEqual(swings(lengths, 1), halves, lengths)

    def test_about_half_a_turn(self):
        above = [[0, 1, number] for number in (1, 2, 4, 8, 16, 32, 64, 128)]
        below = [[0, 1, number] for number in (0, 1, 3, 7, 15, 31, 63, 127)]
        for lengths in ((468, 1, 395, 251), (428, 1, 381, 195)):
            self.assertEqual(swings(lengths, 1), above, lengths)
        for lengths in ((495, 1, 396, 297), (430, 1, 344, 258)):
            self.assertEqual(swings(lengths, 1), below, lengths)

    def test_half_a_turn_just_where_the_two_directions_are_one(self):
        # A's cosine is the same then, crank and coupler stretched or folded.
        sides = set()
        for g, a, c, r in of_kind_3(9):
            stretched, folded = g * g + (c + a) ** 2 - r * r, g * g + (c - a) ** 2 - r * r
            more = folded * (c + a) - stretched * (c - a)
            answer = swing(g, a, c, r, 1, 1)
            self.assertEqual(answer, [0, 1, int(more <= 0)], (g, a, c, r))
            sides.add((more > 0) - (more < 0))
        self.assertEqual(sides, {-1, 0, 1})

    def test_just_above(self):
        for which, m, lengths, number in JUST_ABOVE:
            self.assertEqual(swing(*lengths, which, m), [0, 1, number], (lengths, which, m))

    def test_just_below(self):
        for which, m, lengths, number in JUST_BELOW:
            self.assertEqual(swing(*lengths, which, m), [0, 1, number - 1], (lengths, which, m))

    def test_least_and_greatest_lengths(self):
        self.assertEqual(swings((999, 1, 999, 999), 0), [[0, 1, 0]] * 8)
        self.assertEqual(swing(999, 1, 999, 999, 1, 8), [0, 1, 128])
        self.assertEqual(swing(999, 998, 999, 999, 0, 8), [0, 1, 125])
        self.assertEqual(swing(999, 998, 999, 999, 1, 8), [0, 1, 190])
        for lengths in ((999, 998, 999, 999), (999, 1, 999, 999), (999, 1, 2, 999), (2, 1, 999, 999), (999, 1, 999, 2)):
            self.check_by_doubling(lengths)

    def test_less_than_half_a_turn_of_the_crank(self):
        self.check_by_doubling((9, 1, 5, 6))

    def check_by_doubling(self, lengths):
        for which, m in itertools.product((0, 1), range(1, 9)):
            answer = [0, 1, parts_by_doubling(lengths, which, m)]
            self.assertEqual(swing(*lengths, which, m), answer, (lengths, which, m))

    def test_small_lengths_by_doubling(self):
        for lengths in of_kind_3(7):
            self.check_by_doubling(lengths)

    def test_large_lengths_by_doubling(self):
        chosen = random.Random(3)
        rows = [[chosen.randint(1, 999) for place in range(4)] for turn in range(2000)]
        rows = [lengths for lengths in rows if kind(*lengths) == [3]]
        self.assertGreater(len(rows), 50)
        for lengths in rows:
            self.check_by_doubling(lengths)

    def test_near_whole_numbers_by_doubling(self):
        for which, m, lengths, number in JUST_ABOVE + JUST_BELOW:
            self.check_by_doubling(lengths)

    def test_each_m_halves_the_parts(self):
        for lengths in of_kind_3(7):
            for which in (0, 1):
                numbers = [answer[2] for answer in swings(lengths, which)]
                for fewer, more in itertools.pairwise(numbers):
                    self.assertEqual(more // 2, fewer, (lengths, which))
                self.assertLess(numbers[-1], (128, 256)[which])

    def test_enlarged_alike(self):
        for lengths in of_kind_3(6):
            for times in (2, 999 // max(lengths)):
                larger = [times * length for length in lengths]
                for which in (0, 1):
                    self.assertEqual(swings(larger, which), swings(lengths, which), lengths)

    def test_quarter_turn_by_what_line_tells(self):
        # The rocker's cosines at its extremes: both of one sign is less than a quarter turn.
        for lengths in of_kind_3(7):
            at_extremes = [line(*lengths, 1, folded, 3)[2] for folded in (0, 1)]
            if at_extremes[0] * at_extremes[1] >= 0:
                self.assertEqual(swing(*lengths, 0, 2)[2], 0, lengths)


class Wrong(unittest.TestCase):
    def test_wrong_ahead_of_another_kind(self):
        for lengths in ((1, 3, 4, 5), (4, 1, 2, 3), (10, 2, 3, 4)):
            self.assertEqual(swing(*lengths, 0, 1), [-2], lengths)
            self.assertEqual(swing(*lengths, 2, 1), [-1], lengths)
            self.assertEqual(swing(*lengths, 0, 0), [-1], lengths)
            self.assertEqual(swing(*lengths, 0, 9), [-1], lengths)
            self.assertEqual(swing(*lengths, 1, MOST), [-1], lengths)
        self.assertEqual(swing(1000, 2, 3, 4, 0, 1), [-1])
        self.assertEqual(swing(10, 2, 0, 4, 0, 1), [-1])


if __name__ == "__main__":
    unittest.main()
