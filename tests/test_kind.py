"""kind: what four lengths tell of how they can move."""

import itertools
import unittest

from fourbars.linkage import kind


def has_figure(lengths):
    """No bar is longer than the three others in a row."""
    return all(2 * length <= sum(lengths) for length in lengths)


class Ordinary(unittest.TestCase):
    def check(self, answer, rows):
        for lengths in rows:
            with self.subTest(lengths=lengths):
                self.assertEqual(kind(*lengths), [answer])

    def test_no_figure_with_each_bar_the_longest(self):
        self.check(0, set(itertools.permutations((10, 2, 3, 4))))
        self.check(0, set(itertools.permutations((999, 1, 1, 1))))

    def test_one_figure_in_line_with_each_bar_the_longest(self):
        self.check(1, set(itertools.permutations((9, 2, 3, 4))))
        self.check(1, set(itertools.permutations((3, 1, 1, 1))))

    def test_ground_shortest(self):
        self.check(2, ((1, *rest) for rest in itertools.permutations((3, 4, 5))))

    def test_crank_shortest(self):
        self.check(3, ((g, 1, c, r) for g, c, r in itertools.permutations((3, 4, 5))))

    def test_coupler_shortest(self):
        self.check(4, ((g, a, 1, r) for g, a, r in itertools.permutations((3, 4, 5))))

    def test_rocker_shortest(self):
        self.check(5, ((*rest, 1) for rest in itertools.permutations((3, 4, 5))))

    def test_shortest_with_equal_others(self):
        self.check(2, [(1, 2, 2, 2), (2, 3, 4, 4), (2, 4, 3, 4), (2, 4, 4, 3)])
        self.check(3, [(2, 1, 2, 2), (3, 2, 4, 4), (4, 2, 3, 4), (4, 2, 4, 3)])
        self.check(4, [(2, 2, 1, 2), (3, 4, 2, 4), (4, 3, 2, 4), (4, 4, 2, 3)])
        self.check(5, [(2, 2, 2, 1), (3, 4, 4, 2), (4, 3, 4, 2), (4, 4, 3, 2)])

    def test_just_as_much(self):
        self.check(6, set(itertools.permutations((1, 2, 3, 4))))
        self.check(6, set(itertools.permutations((2, 2, 5, 5))))
        self.check(6, [(1, 1, 1, 1), (7, 7, 7, 7), (999, 999, 999, 999)])

    def test_more(self):
        self.check(7, set(itertools.permutations((2, 3, 4, 6))))
        self.check(7, set(itertools.permutations((2, 2, 2, 3))))
        self.check(7, set(itertools.permutations((2, 2, 3, 4))))


class Edges(unittest.TestCase):
    def test_longest_about_the_three_others(self):
        # The three others make 18.
        self.assertEqual(kind(19, 5, 6, 7), [0])
        self.assertEqual(kind(18, 5, 6, 7), [1])
        self.assertEqual(kind(17, 5, 6, 7), [7])
        self.assertEqual(kind(5, 6, 7, 19), [0])
        self.assertEqual(kind(5, 6, 7, 18), [1])
        self.assertEqual(kind(5, 6, 7, 17), [7])

    def test_longest_and_shortest_about_the_two_others(self):
        # The two others make 15, the shortest is 3.
        self.assertEqual(kind(7, 3, 8, 13), [7])
        self.assertEqual(kind(7, 3, 8, 12), [6])
        self.assertEqual(kind(7, 3, 8, 11), [3])
        self.assertEqual(kind(3, 13, 7, 8), [7])
        self.assertEqual(kind(3, 12, 7, 8), [6])
        self.assertEqual(kind(3, 11, 7, 8), [2])

    def test_least_and_greatest_lengths(self):
        self.assertEqual(kind(999, 998, 1, 1), [7])
        self.assertEqual(kind(999, 997, 1, 1), [1])
        self.assertEqual(kind(999, 996, 1, 1), [0])
        self.assertEqual(kind(1, 999, 999, 999), [2])
        self.assertEqual(kind(999, 1, 999, 999), [3])
        self.assertEqual(kind(999, 999, 1, 999), [4])
        self.assertEqual(kind(999, 999, 999, 1), [5])
        self.assertEqual(kind(1, 1, 999, 999), [6])

    def test_enlarged_alike(self):
        for lengths in itertools.product(range(1, 7), repeat=4):
            for times in (2, 3, 999 // max(lengths)):
                larger = [times * length for length in lengths]
                self.assertEqual(kind(*larger), kind(*lengths), lengths)

    def test_told_the_other_way_round(self):
        renamed = [0, 1, 2, 5, 4, 3, 6, 7]
        for g, a, c, r in itertools.product(range(1, 8), repeat=4):
            answer = kind(g, a, c, r)[0]
            self.assertEqual(kind(g, r, c, a), [renamed[answer]], (g, a, c, r))

    def test_figure_just_where_told(self):
        for lengths in itertools.product(range(1, 8), repeat=4):
            self.assertEqual(kind(*lengths) != [0], has_figure(lengths), lengths)


class Wrong(unittest.TestCase):
    def test_ahead_of_no_figure(self):
        # Were these lengths taken, they would make no figure.
        self.assertEqual(kind(1000, 1, 1, 1), [-1])
        self.assertEqual(kind(0, 1, 1, 9), [-1])


if __name__ == "__main__":
    unittest.main()
