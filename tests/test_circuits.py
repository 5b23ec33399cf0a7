"""circuits: how many circuits the figures of four lengths make."""

import itertools
import unittest

from fourbars.linkage import circuits, kind

# Of each kind: how many circuits there are.
MANY = [0, 1, 2, 2, 2, 2, 1, 1]


class Ordinary(unittest.TestCase):
    def check(self, answer, rows):
        for lengths in rows:
            with self.subTest(lengths=lengths):
                self.assertEqual(circuits(*lengths), [answer])

    def test_no_figure(self):
        self.check(0, set(itertools.permutations((10, 2, 3, 4))))
        self.check(0, set(itertools.permutations((999, 1, 1, 1))))

    def test_one_figure_in_line(self):
        self.check(1, set(itertools.permutations((9, 2, 3, 4))))
        self.check(1, set(itertools.permutations((3, 1, 1, 1))))

    def test_each_bar_the_shortest(self):
        self.check(2, set(itertools.permutations((1, 3, 4, 5))))
        self.check(2, set(itertools.permutations((1, 2, 2, 2))))
        self.check(2, [(1, 3, 4, 5), (4, 1, 3, 5), (5, 3, 1, 4), (3, 5, 4, 1)])

    def test_just_as_much(self):
        self.check(1, set(itertools.permutations((1, 2, 3, 4))))
        self.check(1, set(itertools.permutations((2, 2, 5, 5))))
        self.check(1, [(1, 1, 1, 1), (7, 7, 7, 7)])

    def test_more(self):
        self.check(1, set(itertools.permutations((2, 3, 4, 6))))
        self.check(1, set(itertools.permutations((2, 2, 2, 3))))


class Edges(unittest.TestCase):
    def test_longest_about_the_three_others(self):
        # The three others make 18.
        for place in range(4):
            for longest, answer in ((19, [0]), (18, [1]), (17, [1])):
                lengths = [5, 6, 7]
                lengths.insert(place, longest)
                self.assertEqual(circuits(*lengths), answer, lengths)

    def test_longest_and_shortest_about_the_two_others(self):
        # The two others make 15, the shortest is 3.
        for longest, answer in ((13, [1]), (12, [1]), (11, [2])):
            for lengths in itertools.permutations((3, 7, 8, longest)):
                self.assertEqual(circuits(*lengths), answer, lengths)

    def test_least_and_greatest_lengths(self):
        self.assertEqual(circuits(999, 996, 1, 1), [0])
        self.assertEqual(circuits(999, 997, 1, 1), [1])
        self.assertEqual(circuits(999, 998, 1, 1), [1])
        self.assertEqual(circuits(999, 999, 1, 1), [1])
        self.assertEqual(circuits(999, 999, 2, 1), [2])
        self.assertEqual(circuits(999, 1, 999, 999), [2])
        self.assertEqual(circuits(999, 999, 999, 999), [1])
        self.assertEqual(circuits(999, 998, 998, 999), [1])

    def test_of_each_kind(self):
        for lengths in itertools.product(range(1, 9), repeat=4):
            self.assertEqual(circuits(*lengths), [MANY[kind(*lengths)[0]]], lengths)

    def test_enlarged_alike(self):
        for lengths in itertools.product(range(1, 7), repeat=4):
            for times in (2, 3, 999 // max(lengths)):
                larger = [times * length for length in lengths]
                self.assertEqual(circuits(*larger), circuits(*lengths), lengths)

    def test_told_the_other_way_round(self):
        for g, a, c, r in itertools.product(range(1, 8), repeat=4):
            self.assertEqual(circuits(g, r, c, a), circuits(g, a, c, r), (g, a, c, r))


class Wrong(unittest.TestCase):
    def test_wrong_ahead_of_no_figure(self):
        self.assertEqual(circuits(999, 1, 1, 1), [0])
        self.assertEqual(circuits(1000, 1, 1, 1), [-1])
        self.assertEqual(circuits(9, 1, 0, 1), [-1])


if __name__ == "__main__":
    unittest.main()
