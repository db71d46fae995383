import unittest
from itertools import permutations

from likelettersdesk.fonts import lt_vote
from tests.drawing import Locked, scattered

WHITE = [0] * 64
BLACK = [255] * 64
GREATEST = 4294967295


def row(*first):
    """A row with these numbers first, then 0."""
    return list(first) + [0] * (64 - len(first))


def rows(*firsts):
    """Rows that are 0 but for their first number: from a row of 0 they are as far as its square."""
    return [number for first in firsts for number in row(first)]


def vote_by_places(k, names, l, x):
    """The nearest are taken one by one, each time the first of the least far that are left."""
    far = {}
    for number in range(len(names)):
        far[number] = sum((l[64 * number + place] - x[place]) ** 2 for place in range(64))
    taken = []
    for _ in range(k):
        nearest = min(far, key=lambda number: (far[number], number))
        del far[nearest]
        taken.append(names[nearest])
    best = taken[0]
    for name in taken:
        if taken.count(name) > taken.count(best):
            best = name
    return [0, best, taken.count(best)]


class OrdinaryRows(unittest.TestCase):
    def test_a_few_rows(self):
        names = [7, 8, 7, 9, 8]
        l = rows(50, 10, 40, 20, 30)
        # Nearest first the names are 8, 9, 8, 7, 7.
        self.assertEqual(lt_vote(1, names, l, list(WHITE)), [0, 8, 1])
        self.assertEqual(lt_vote(2, names, l, list(WHITE)), [0, 8, 1])
        self.assertEqual(lt_vote(3, names, l, list(WHITE)), [0, 8, 2])
        self.assertEqual(lt_vote(4, names, l, list(WHITE)), [0, 8, 2])
        self.assertEqual(lt_vote(5, names, l, list(WHITE)), [0, 8, 2])
        # From 50 on down they are 7, 7, 8, 9, 8.
        self.assertEqual(lt_vote(1, names, l, row(50)), [0, 7, 1])
        self.assertEqual(lt_vote(2, names, l, row(50)), [0, 7, 2])
        self.assertEqual(lt_vote(5, names, l, row(50)), [0, 7, 2])

    def test_a_name_that_most_have_but_not_the_nearest(self):
        names = [5, 6, 6, 5, 6]
        l = rows(1, 2, 3, 9, 8)
        self.assertEqual(lt_vote(1, names, l, list(WHITE)), [0, 5, 1])
        self.assertEqual(lt_vote(2, names, l, list(WHITE)), [0, 5, 1])
        self.assertEqual(lt_vote(3, names, l, list(WHITE)), [0, 6, 2])
        self.assertEqual(lt_vote(4, names, l, list(WHITE)), [0, 6, 3])
        self.assertEqual(lt_vote(5, names, l, list(WHITE)), [0, 6, 3])

    def test_squares_not_differences_alone(self):
        # The first is 3 away at one place (9), the second 1 at six places (6), the third 2 at two (8).
        l = row(3) + row(1, 1, 1, 1, 1, 1) + row(2, 2)
        self.assertEqual(lt_vote(1, [1, 2, 3], l, list(WHITE)), [0, 2, 1])
        self.assertEqual(lt_vote(1, [1, 3], row(3) + row(2, 2), list(WHITE)), [0, 3, 1])
        self.assertEqual(lt_vote(2, [1, 2, 2], row(3) + row(2, 2) + row(2, 2, 1), list(WHITE)), [0, 2, 1])
        # The greatest difference alone, or how many places differ, would tell otherwise.
        self.assertEqual(lt_vote(1, [1, 2], row(5, 5, 5) + row(8), list(WHITE)), [0, 2, 1])
        self.assertEqual(lt_vote(1, [1, 2], row(8) + row(4, 4, 4), list(WHITE)), [0, 2, 1])

    def test_above_and_below_are_as_far(self):
        x = row(100)
        self.assertEqual(lt_vote(1, [1, 2], rows(109, 92), x), [0, 2, 1])
        self.assertEqual(lt_vote(1, [1, 2], rows(91, 108), x), [0, 2, 1])
        self.assertEqual(lt_vote(1, [1, 2], rows(92, 108), x), [0, 1, 1])
        self.assertEqual(lt_vote(1, [1, 2], rows(108, 92), x), [0, 1, 1])

    def test_numbers_have_no_sign(self):
        self.assertEqual(lt_vote(1, [1, 2], rows(255, 100), list(WHITE)), [0, 2, 1])
        self.assertEqual(lt_vote(1, [1, 2], rows(128, 126), row(127)), [0, 1, 1])
        self.assertEqual(lt_vote(1, [1, 2], rows(0, 200), row(255)), [0, 2, 1])

    def test_each_place_counts(self):
        for place in range(64):
            one = [0] * 64
            one[place] = 9
            self.assertEqual(lt_vote(1, [1, 2], one + WHITE, list(WHITE)), [0, 2, 1], place)
            self.assertEqual(lt_vote(1, [1, 2], WHITE + one, list(one)), [0, 2, 1], place)
            self.assertEqual(lt_vote(1, [1, 2], WHITE + one, list(WHITE)), [0, 1, 1], place)

    def test_many_rows_place_by_place(self):
        for seed, n in enumerate([1, 2, 3, 15, 16, 17, 40]):
            names = [word % 4 for word in scattered(n, 32, 50 + seed)]
            l, x = scattered(64 * n, 8, seed), scattered(64, 8, 100 + seed)
            for k in range(1, n + 1):
                self.assertEqual(lt_vote(k, names, l, x), vote_by_places(k, names, l, x), (n, k))

    def test_rows_of_which_many_are_as_near(self):
        for seed in range(10):
            n = 12 + seed
            names = [word % 5 for word in scattered(n, 32, 60 + seed)]
            l = rows(*[word % 4 for word in scattered(n, 32, 70 + seed)])
            for k in range(1, n + 1):
                self.assertEqual(lt_vote(k, names, l, row(1)), vote_by_places(k, names, l, row(1)), (seed, k))


class AsNear(unittest.TestCase):
    def test_the_lesser_number_goes_first(self):
        self.assertEqual(lt_vote(1, [5, 6], rows(4, 4), list(WHITE)), [0, 5, 1])
        self.assertEqual(lt_vote(1, [6, 5], rows(4, 4), list(WHITE)), [0, 6, 1])
        self.assertEqual(lt_vote(1, [3, 6, 5], rows(9, 4, 4), list(WHITE)), [0, 6, 1])
        self.assertEqual(lt_vote(2, [5, 6], rows(4, 4), list(WHITE)), [0, 5, 1])
        self.assertEqual(lt_vote(2, [6, 5], rows(4, 4), list(WHITE)), [0, 6, 1])

    def test_as_near_in_other_places(self):
        l = row(0, 5) + row(5) + row(3, 4) + row(4, 3)
        for names in permutations([1, 2, 3, 4]):
            for k in range(1, 5):
                self.assertEqual(lt_vote(k, list(names), l, list(WHITE)), [0, names[0], 1], (names, k))

    def test_at_the_last_place_too(self):
        # Of three rows as near two are left out, though both have the name that would win.
        self.assertEqual(lt_vote(2, [8, 7, 8, 8], rows(1, 5, 5, 5), list(WHITE)), [0, 8, 1])
        self.assertEqual(lt_vote(2, [7, 7, 8, 8], rows(1, 5, 5, 5), list(WHITE)), [0, 7, 2])
        self.assertEqual(lt_vote(2, [8, 7, 8, 8], rows(5, 5, 1, 5), list(WHITE)), [0, 8, 2])
        self.assertEqual(lt_vote(2, [7, 8, 8, 8], rows(5, 5, 1, 5), list(WHITE)), [0, 8, 1])
        self.assertEqual(lt_vote(3, [1, 2, 2, 3, 3, 3], rows(6, 6, 6, 6, 6, 6), list(WHITE)), [0, 2, 2])
        self.assertEqual(lt_vote(5, [1, 2, 2, 3, 3, 3], rows(6, 6, 6, 6, 6, 6), list(WHITE)), [0, 2, 2])
        self.assertEqual(lt_vote(6, [1, 2, 2, 3, 3, 3], rows(6, 6, 6, 6, 6, 6), list(WHITE)), [0, 3, 3])

    def test_one_more_that_is_as_near_would_win(self):
        # Nearest first: number 0, then 1, then 2 and 3 as near.
        l = rows(1, 2, 5, 5)
        self.assertEqual(lt_vote(3, [9, 4, 4, 9], l, list(WHITE)), [0, 4, 2])
        self.assertEqual(lt_vote(4, [9, 4, 4, 9], l, list(WHITE)), [0, 9, 2])
        self.assertEqual(lt_vote(3, [9, 4, 9, 4], l, list(WHITE)), [0, 9, 2])
        self.assertEqual(lt_vote(3, [1, 4, 9, 4], l, list(WHITE)), [0, 1, 1])
        self.assertEqual(lt_vote(4, [1, 4, 9, 4], l, list(WHITE)), [0, 4, 2])
        # Nearest first: number 3, then 0, 1 and 2 as near.
        l = rows(5, 5, 5, 1)
        self.assertEqual(lt_vote(2, [9, 4, 9, 4], l, list(WHITE)), [0, 4, 1])
        self.assertEqual(lt_vote(3, [9, 4, 9, 4], l, list(WHITE)), [0, 4, 2])
        self.assertEqual(lt_vote(3, [9, 8, 8, 4], l, list(WHITE)), [0, 4, 1])
        self.assertEqual(lt_vote(4, [9, 8, 8, 4], l, list(WHITE)), [0, 8, 2])


class AsMany(unittest.TestCase):
    def test_the_name_that_comes_first_among_the_nearest(self):
        # Nearest first the names are 6, 9, 9, 6, 2: neither the first in names (9), nor the least (2).
        names = [9, 2, 6, 9, 6]
        l = rows(3, 9, 1, 2, 4)
        self.assertEqual(lt_vote(1, names, l, list(WHITE)), [0, 6, 1])
        self.assertEqual(lt_vote(2, names, l, list(WHITE)), [0, 6, 1])
        self.assertEqual(lt_vote(3, names, l, list(WHITE)), [0, 9, 2])
        self.assertEqual(lt_vote(4, names, l, list(WHITE)), [0, 6, 2])
        self.assertEqual(lt_vote(5, names, l, list(WHITE)), [0, 6, 2])

    def test_not_the_one_that_has_its_many_first(self):
        # Nearest first the names are 1, 2, 2, 1; of 2 both come ahead of the second 1.
        self.assertEqual(lt_vote(4, [1, 2, 2, 1], rows(1, 2, 3, 4), list(WHITE)), [0, 1, 2])
        self.assertEqual(lt_vote(4, [2, 1, 1, 2], rows(1, 2, 3, 4), list(WHITE)), [0, 2, 2])
        self.assertEqual(lt_vote(4, [1, 2, 2, 1], rows(4, 3, 2, 1), list(WHITE)), [0, 1, 2])

    def test_not_the_one_that_comes_first_of_all(self):
        # Nearest first the names are 3, 8, 5, 5, 8.
        self.assertEqual(lt_vote(5, [5, 8, 3, 5, 8], rows(3, 2, 1, 4, 5), list(WHITE)), [0, 8, 2])
        self.assertEqual(lt_vote(4, [5, 8, 3, 5, 8], rows(3, 2, 1, 4, 5), list(WHITE)), [0, 5, 2])

    def test_every_order(self):
        for places in permutations(range(4)):
            names = [[30, 10, 30, 10][place] for place in places]
            l = rows(*[place + 1 for place in places])
            self.assertEqual(lt_vote(4, names, l, list(WHITE)), [0, 30, 2], places)
            self.assertEqual(lt_vote(4, names, l, row(5)), [0, 10, 2], places)


class Edges(unittest.TestCase):
    def test_one_row(self):
        for name in [0, 1, 2147483648, GREATEST]:
            self.assertEqual(lt_vote(1, [name], list(BLACK), list(WHITE)), [0, name, 1], name)
            self.assertEqual(lt_vote(1, [name], list(WHITE), list(WHITE)), [0, name, 1], name)

    def test_k_of_1_and_of_n(self):
        for n in [1, 2, 5, 16, 256]:
            names = [number // 2 for number in range(n)]
            l = rows(*[number // 2 for number in range(n)])
            self.assertEqual(lt_vote(1, names, l, row(255)), [0, names[-1], 1], n)
            self.assertEqual(lt_vote(n, names, l, list(WHITE)), [0, 0, min(n, 2)], n)
            self.assertEqual(lt_vote(n, [6] * n, l, list(WHITE)), [0, 6, n], n)

    def test_256_rows(self):
        names = [word % 20 for word in scattered(256, 32, 8)]
        l, x = scattered(64 * 256, 8, 5), scattered(64, 8, 6)
        for k in [1, 2, 3, 17, 100, 255, 256]:
            self.assertEqual(lt_vote(k, names, l, x), vote_by_places(k, names, l, x), k)
        self.assertEqual(lt_vote(1, list(range(256)), WHITE * 255 + BLACK, list(BLACK)), [0, 255, 1])
        self.assertEqual(lt_vote(256, [1, 2] * 127 + [2, 2], WHITE * 256, list(BLACK)), [0, 2, 129])
        self.assertEqual(lt_vote(256, list(range(256)), WHITE * 255 + BLACK, list(BLACK)), [0, 255, 1])
        self.assertEqual(lt_vote(256, [3] * 256, BLACK * 256, list(WHITE)), [0, 3, 256])

    def test_the_least_and_the_greatest_name(self):
        self.assertEqual(lt_vote(1, [GREATEST, 0], rows(1, 2), list(WHITE)), [0, GREATEST, 1])
        self.assertEqual(lt_vote(1, [0, GREATEST], rows(1, 2), list(WHITE)), [0, 0, 1])
        self.assertEqual(lt_vote(2, [GREATEST, 0], rows(1, 2), list(WHITE)), [0, GREATEST, 1])
        self.assertEqual(lt_vote(2, [0, GREATEST], rows(1, 2), list(WHITE)), [0, 0, 1])
        self.assertEqual(lt_vote(3, [0, GREATEST, GREATEST], rows(1, 2, 3), list(WHITE)), [0, GREATEST, 2])
        self.assertEqual(lt_vote(3, [GREATEST, 0, 0], rows(1, 2, 3), list(WHITE)), [0, 0, 2])
        # Names that are alike in all bits but the highest are different ones.
        self.assertEqual(lt_vote(3, [4, 2147483652, 2147483652], rows(1, 2, 3), list(WHITE)), [0, 2147483652, 2])

    def test_the_greatest_sum_of_squares(self):
        # The greatest is 64 * 255 * 255, and the next is less by 509 alone.
        near = [1] + [0] * 63
        self.assertEqual(lt_vote(1, [4, 5], WHITE + near, list(BLACK)), [0, 5, 1])
        self.assertEqual(lt_vote(1, [4, 5, 6], WHITE + WHITE + near, list(BLACK)), [0, 6, 1])
        self.assertEqual(lt_vote(2, [4, 5, 6], WHITE + WHITE + near, list(BLACK)), [0, 6, 1])
        self.assertEqual(lt_vote(2, [4, 5], WHITE + WHITE, list(BLACK)), [0, 4, 1])
        self.assertEqual(lt_vote(1, [4, 5], BLACK + [254] + [255] * 63, list(WHITE)), [0, 5, 1])
        self.assertEqual(lt_vote(256, [7] * 256, WHITE * 256, list(BLACK)), [0, 7, 256])

    def test_the_least_sum_of_squares(self):
        self.assertEqual(lt_vote(1, [4, 5], row(1) + WHITE, list(WHITE)), [0, 5, 1])
        self.assertEqual(lt_vote(1, [4, 5], [254] + [255] * 63 + BLACK, list(BLACK)), [0, 5, 1])


class WrongInputs(unittest.TestCase):
    def test_no_row(self):
        for k in [0, 1, 2, 64, 256, 257, GREATEST]:
            self.assertEqual(lt_vote(k, [], [], []), [-2], k)
            self.assertEqual(lt_vote(k, [], [], list(WHITE)), [-2], k)

    def test_257_rows(self):
        for k in [0, 1, 2, 256, 257, 258, GREATEST]:
            self.assertEqual(lt_vote(k, [1] * 257, [0] * 64 * 257, list(WHITE)), [-2], k)
            self.assertEqual(lt_vote(k, list(range(257)), [255] * 64 * 257, list(BLACK)), [-2], k)

    def test_k_of_0(self):
        for n in [1, 2, 255, 256]:
            self.assertEqual(lt_vote(0, [1] * n, WHITE * n, list(WHITE)), [-2], n)
            self.assertEqual(lt_vote(0, list(range(n)), scattered(64 * n, 8, n), list(BLACK)), [-2], n)

    def test_k_above_n(self):
        for n in [1, 2, 5, 255, 256]:
            for k in [n + 1, n + 2, 257, 65536, 2147483648, GREATEST]:
                self.assertEqual(lt_vote(k, [1] * n, WHITE * n, list(WHITE)), [-2], (k, n))
            self.assertEqual(lt_vote(n, [1] * n, WHITE * n, list(WHITE)), [0, 1, n], n)


class EachCallAlone(unittest.TestCase):
    def test_what_is_handed_in_is_not_changed(self):
        for k, n in [(1, 1), (3, 5), (5, 5), (0, 5), (6, 5), (200, 256), (3, 257), (1, 0)]:
            words, numbers, one = scattered(n, 32, n), scattered(64 * n, 8, n + 1), scattered(64, 8, n + 2)
            names, l, x = Locked(words), Locked(numbers), Locked(one)
            lt_vote(k, names, l, x)
            self.assertEqual(list(names), words)
            self.assertEqual(list(l), numbers)
            self.assertEqual(list(x), one)

    def test_one_list_may_be_the_rows_and_the_numbers(self):
        both = Locked(range(64))
        self.assertEqual(lt_vote(1, [12], both, both), [0, 12, 1])
        self.assertEqual(list(both), list(range(64)))

    def test_one_call_after_the_other(self):
        for _ in range(2):
            first = lt_vote(3, [1, 2, 2], rows(1, 2, 3), list(WHITE))
            self.assertEqual(first, [0, 2, 2])
            first.append(7)
            first[1] = 99
            self.assertEqual(lt_vote(0, [], [], []), [-2])
            self.assertEqual(lt_vote(2, [1, 2, 2], rows(1, 2, 3), list(WHITE)), [0, 1, 1])
            self.assertEqual(lt_vote(4, [1, 2, 2], rows(1, 2, 3), list(WHITE)), [-2])
            self.assertEqual(lt_vote(3, [2, 1, 1], rows(1, 2, 3), list(WHITE)), [0, 1, 2])

    def test_plain_whole_numbers(self):
        answer = lt_vote(2, [1, 1], rows(1, 2), list(WHITE))
        self.assertIs(type(answer), list)
        self.assertEqual([type(number) for number in answer], [int, int, int])
