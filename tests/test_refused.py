"""What is refused first, of every call: each wrong argument, alone or not."""

import itertools
import unittest

from fourbars import linkage

MOST = 9223372036854775807
LENGTHS = {bar: (0, 1000, 1001, MOST, -1) for bar in "gacr"}
PIN = (4, 5, MOST, -1)
CHOICE = (2, 3, MOST, -1)
PLACE = (100, -100, MOST, -MOST)
# Of each call: the wrong values of each argument, in the arguments' order.
WRONG = {
    "kind": LENGTHS,
    "full": {**LENGTHS, "pin": PIN},
    "range_of": {**LENGTHS, "pin": PIN},
    "line": {**LENGTHS, "pin": PIN, "folded": CHOICE, "other": PIN},
    "circuits": LENGTHS,
    "circuit": {**LENGTHS, "p": PLACE, "q": PLACE, "s": CHOICE},
    "drive": {**LENGTHS, "p": PLACE, "q": PLACE, "s": CHOICE, "left": CHOICE, "p2": PLACE, "q2": PLACE},
    "swing": {**LENGTHS, "which": CHOICE, "m": (0, 9, 10, MOST, -1)},
}
# Of each call: rows that are not refused with -1, and what they are answered.
TAKEN = {
    "kind": {(5, 6, 7, 9): [7], (999, 1, 999, 999): [3], (999, 1, 1, 1): [0]},
    "full": {(4, 1, 3, 5, 0): [1], (4, 1, 3, 5, 3): [0], (999, 1, 1, 1, 3): [-2]},
    "range_of": {(1, 1, 1, 1, 0): [0, 4, -1, 1, 1, 1], (9, 2, 3, 4, 3): [0, 4, 1, 1, 1, 1], (999, 1, 1, 1, 3): [-2]},
    "line": {
        (4, 1, 3, 5, 1, 0, 0): [1, 2, 7, 32],
        (4, 1, 3, 5, 3, 1, 0): [0, 0],
        (999, 1, 1, 1, 0, 1, 3): [-2],
        (2, 2, 3, 3, 0, 1, 3): [-5],
    },
    "circuits": {(4, 1, 3, 5): [2], (1, 1, 999, 999): [1], (999, 1, 1, 1): [0]},
    "circuit": {
        (4, 1, 3, 5, 99, -99, 1): [1],
        (4, 3, 1, 4, -99, 99, 0): [1],
        (2, 2, 3, 3, 0, 1, 1): [-3],
        (999, 1, 1, 1, 1, 0, 0): [-3],
    },
    "drive": {
        (4, 1, 3, 5, 99, -99, 1, 1, -99, -99): [1],
        (4, 3, 1, 4, -98, 99, 1, 0, -99, 99): [0],
        (999, 1, 1, 1, 1, 1, 0, 0, 1, 2): [-3],
        (5, 3, 1, 4, 1, 2, 0, 1, 1, 1): [-4],
        (4, 1, 2, 3, 9, 1, 1, 1, -9, 1): [-5],
    },
    "swing": {
        (4, 1, 3, 5, 0, 8): [0, 1, 20],
        (4, 1, 3, 5, 1, 1): [0, 1, 1],
        (1, 3, 4, 5, 0, 1): [-2],
        (999, 1, 1, 1, 1, 8): [-2],
    },
}


def rows_with_wrong(name, many):
    """Each row that is taken, with so many of its arguments made wrong."""
    wrong = list(WRONG[name].values())
    for row in TAKEN[name]:
        for places in itertools.combinations(range(len(row)), many):
            for values in itertools.product(*[wrong[place] for place in places]):
                changed = list(row)
                for place, value in zip(places, values):
                    changed[place] = value
                yield changed


class Refused(unittest.TestCase):
    def check(self, many):
        for name in WRONG:
            for row in rows_with_wrong(name, many):
                self.assertEqual(getattr(linkage, name)(*row), [-1], (name, row))

    def test_taken(self):
        for name, rows in TAKEN.items():
            for row, answer in rows.items():
                self.assertEqual(getattr(linkage, name)(*row), answer, (name, row))

    def test_one_wrong(self):
        self.check(1)

    def test_two_wrong(self):
        self.check(2)

    def test_all_wrong(self):
        for name, wrong in WRONG.items():
            for value in (1000, MOST, -1):
                self.assertEqual(getattr(linkage, name)(*[value] * len(wrong)), [-1], name)


class OtherIsThePin(unittest.TestCase):
    def test_alone(self):
        for lengths in ((4, 1, 3, 5), (9, 2, 3, 4), (999, 1, 1, 1), (2, 2, 3, 3), (1, 1, 1, 1)):
            for pin, folded in itertools.product(range(4), range(2)):
                self.assertEqual(linkage.line(*lengths, pin, folded, pin), [-1], (lengths, pin))

    def test_with_another_wrong(self):
        for pin in range(4):
            self.assertEqual(linkage.line(4, 1, 3, 5, pin, 2, pin), [-1])
            self.assertEqual(linkage.line(4, 1, 3, 0, pin, 1, pin), [-1])
        self.assertEqual(linkage.line(4, 1, 3, 5, 4, 0, 4), [-1])
        self.assertEqual(linkage.line(4, 1, 3, 5, MOST, 1, MOST), [-1])


class NoPlace(unittest.TestCase):
    """Both numbers of a place of the crank are 0."""

    LENGTHS = ((4, 1, 3, 5), (9, 2, 3, 4), (999, 1, 1, 1), (2, 2, 3, 3), (1, 1, 1, 1), (5, 3, 1, 4))

    def test_alone(self):
        for lengths in self.LENGTHS:
            for s in (0, 1):
                self.assertEqual(linkage.circuit(*lengths, 0, 0, s), [-1], (lengths, s))

    def test_alone_at_first_or_in_the_end(self):
        for lengths in self.LENGTHS:
            for s, left in itertools.product((0, 1), (0, 1)):
                for place in ((0, 1), (1, 0), (1, 1), (0, 0), (-1, 2)):
                    self.assertEqual(linkage.drive(*lengths, 0, 0, s, left, *place), [-1], (lengths, place))
                    self.assertEqual(linkage.drive(*lengths, *place, s, left, 0, 0), [-1], (lengths, place))

    def test_with_another_wrong(self):
        self.assertEqual(linkage.circuit(4, 1, 3, 5, 0, 0, 2), [-1])
        self.assertEqual(linkage.circuit(4, 1, 3, 0, 0, 0, 1), [-1])
        self.assertEqual(linkage.circuit(4, MOST, 3, 5, 0, 0, MOST), [-1])
        self.assertEqual(linkage.drive(4, 1, 3, 5, 0, 0, 0, 2, 1, 1), [-1])
        self.assertEqual(linkage.drive(4, 1, 3, 5, 1, 100, 0, 1, 0, 0), [-1])

    def test_one_of_both(self):
        for number in (1, 99, -1, -99):
            for place in ((0, number), (number, 0)):
                self.assertEqual(linkage.circuit(4, 1, 3, 5, *place, 1), [1], place)
                self.assertEqual(linkage.drive(4, 1, 3, 5, *place, 1, 1, 1, 1), [1], place)
                self.assertEqual(linkage.drive(4, 1, 3, 5, 1, 1, 1, 1, *place), [1], place)


if __name__ == "__main__":
    unittest.main()
