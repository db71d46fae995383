import unittest

from likelettersdesk.fonts import lt_score
from tests.drawing import Locked, scattered

WHITE = [0] * 64
BLACK = [255] * 64
STEPS = list(range(64))


def signed_byte(number):
    return [*range(128), *range(-128, 0)][number]


def signed_word(number):
    return int.from_bytes(number.to_bytes(4, "big"), "big", signed=True)


def word(number):
    """The word that stands for a number with a sign."""
    return int.from_bytes(number.to_bytes(8, "big", signed=True)[4:], "big")


def sums_place_by_place(w, start, x):
    sums = []
    for row, begin in enumerate(start):
        total = signed_word(begin)
        for place in range(64):
            total += signed_byte(w[64 * row + place]) * x[place]
        sums.append(total)
    return sums


def score_by_places(w, start, x):
    sums = sums_place_by_place(w, start, x)
    first = min(range(len(sums)), key=lambda number: (-sums[number], number))
    return [first] + [word(total) for total in sums]


def at(**places):
    """64 bytes of which a few, told as p0 .. p63, are not 0."""
    return [places.get(f"p{number}", 0) for number in range(64)]


class OrdinaryRows(unittest.TestCase):
    def test_a_few_rows(self):
        x = at(p0=10, p1=20, p63=30)
        w = at(p0=1, p1=2, p63=3) + at(p0=4, p5=100) + at(p1=7, p63=1, p62=99)
        self.assertEqual(lt_score(w, [0, 0, 0], x), [2, 140, 40, 170])
        self.assertEqual(lt_score(w, [31, 0, 0], x), [0, 171, 40, 170])
        self.assertEqual(lt_score(w, [5, 200, 69], x), [1, 145, 240, 239])

    def test_weights_below_0(self):
        x = at(p0=10, p1=20)
        w = at(p0=255, p1=1) + at(p0=1, p1=255) + at(p0=254, p1=253)
        self.assertEqual(lt_score(w, [0, 0, 0], x), [0, 10, word(-10), word(-80)])
        self.assertEqual(lt_score(w, [0, 100, 100], x), [1, 10, 90, 20])

    def test_each_place_by_its_own_weight(self):
        for place in range(64):
            x = [0] * 64
            x[place] = 3
            self.assertEqual(lt_score(STEPS + STEPS[::-1], [0, 0], x),
                             [int(63 - place > place), 3 * place, 3 * (63 - place)], place)

    def test_row_by_row_in_turn(self):
        w = [weight for weight in [3, 1, 2, 0] for _ in range(64)]
        self.assertEqual(lt_score(w, [0, 0, 0, 0], [1] * 64), [0, 192, 64, 128, 0])
        self.assertEqual(lt_score(w, [0, 129, 1, 192], [1] * 64), [1, 192, 193, 129, 192])

    def test_many_rows_place_by_place(self):
        for seed, n in enumerate([1, 2, 3, 15, 16, 17, 64]):
            w = scattered(64 * n, 8, seed)
            x = scattered(64, 8, 200 + seed)
            for start in [scattered(n, 32, 100 + seed), [word(part - 2 ** 15) for part in scattered(n, 16, seed)]]:
                self.assertEqual(lt_score(w, start, x), score_by_places(w, start, x), n)


class Signs(unittest.TestCase):
    def test_the_weights_at_the_ends(self):
        x = at(p9=200)
        told_of = {0: 0, 1: 200, 127: 25400, 128: word(-25600), 129: word(-25400), 255: word(-200)}
        for weight, told in told_of.items():
            self.assertEqual(lt_score(at(p9=weight), [0], x), [0, told], weight)

    def test_each_weight(self):
        x = at(p0=1, p63=1)
        for weight in range(256):
            signed = weight if weight < 128 else weight - 256
            self.assertEqual(lt_score(at(p63=weight), [0], x), [0, signed % 4294967296], weight)
            self.assertEqual(lt_score(at(p0=weight) + WHITE, [0, 0], x)[0], int(signed < 0), weight)

    def test_numbers_of_x_have_no_sign(self):
        for number in [0, 1, 127, 128, 129, 254, 255]:
            x = at(p7=number)
            self.assertEqual(lt_score(at(p7=1), [0], x), [0, number], number)
            self.assertEqual(lt_score(at(p7=255) + WHITE, [0, 0], x), [int(number > 0), word(-number), 0], number)

    def test_the_starts_at_the_ends(self):
        starts = [0, 2147483647, 2147483648, 4294967295]
        for begin in starts:
            self.assertEqual(lt_score(STEPS, [begin], WHITE), [0, begin], begin)
        self.assertEqual(lt_score(WHITE * 4, starts, BLACK), [1] + starts)
        self.assertEqual(lt_score(WHITE * 4, starts[::-1], BLACK), [2] + starts[::-1])
        # 4294967295 is -1, which is less than 0 and greater than the least.
        self.assertEqual(lt_score(WHITE * 2, [4294967295, 0], BLACK), [1, 4294967295, 0])
        self.assertEqual(lt_score(WHITE * 2, [2147483648, 4294967295], BLACK), [1, 2147483648, 4294967295])
        self.assertEqual(lt_score(WHITE * 2, [2147483648, 2147483649], BLACK), [1, 2147483648, 2147483649])

    def test_a_start_that_takes_a_sum_to_the_other_side(self):
        x = at(p3=10)
        self.assertEqual(lt_score(at(p3=1), [word(-10)], x), [0, 0])
        self.assertEqual(lt_score(at(p3=1), [word(-11)], x), [0, 4294967295])
        self.assertEqual(lt_score(at(p3=255), [9], x), [0, 4294967295])
        self.assertEqual(lt_score(at(p3=255), [10], x), [0, 0])


class Edges(unittest.TestCase):
    def test_a_sum_of_two_to_the_31_or_more(self):
        x = at(p0=1)
        plus = at(p0=1)
        self.assertEqual(lt_score(plus, [2147483647], x), [0, 2147483648])
        # As a word with a sign the greatest would be the least of all.
        self.assertEqual(lt_score(WHITE + plus + WHITE, [2147483647] * 3, x), [1, 2147483647, 2147483648, 2147483647])
        self.assertEqual(lt_score([127] * 64 + WHITE, [2147483647, 2147483647], BLACK), [0, 2149556287, 2147483647])
        self.assertEqual(lt_score(WHITE + [127] * 64, [0, 2147483647], BLACK), [1, 0, 2149556287])

    def test_a_sum_below_minus_two_to_the_31(self):
        x = at(p0=1)
        minus = at(p0=255)
        self.assertEqual(lt_score(minus, [2147483648], x), [0, 2147483647])
        # As a word the least would be the greatest of all, with a sign or without.
        self.assertEqual(lt_score(minus + WHITE, [2147483648, 2147483648], x), [1, 2147483647, 2147483648])
        self.assertEqual(lt_score(minus + WHITE, [2147483648, 5], x), [1, 2147483647, 5])
        self.assertEqual(lt_score([128] * 64 + WHITE, [2147483648, 2147483648], BLACK), [1, 2145394688, 2147483648])
        self.assertEqual(lt_score(WHITE + [128] * 64, [4294967295, 2147483648], BLACK), [0, 4294967295, 2145394688])

    def test_the_greatest_sum_is_not_the_greatest_word(self):
        x = at(p0=1)
        self.assertEqual(lt_score(at(p0=255) + WHITE + at(p0=1), [0, 0, 0], x), [2, 4294967295, 0, 1])
        self.assertEqual(lt_score(at(p0=255) + at(p0=128), [0, 0], x), [0, 4294967295, 4294967168])

    def test_of_equally_great_sums_the_first(self):
        x = at(p0=2, p1=1)
        w = at(p0=1) + at(p1=4) + at(p0=2) + at(p0=1, p1=2) + at(p1=3)
        self.assertEqual(lt_score(w, [0] * 5, x), [1, 2, 4, 4, 4, 3])
        self.assertEqual(lt_score(w, [2, 0, 0, 0, 0], x), [0, 4, 4, 4, 4, 3])
        self.assertEqual(lt_score(w, [0, word(-1), 0, 0, 1], x), [2, 2, 3, 4, 4, 4])
        self.assertEqual(lt_score(WHITE * 6, [0] * 6, BLACK), [0] * 7)
        self.assertEqual(lt_score(WHITE * 3, [word(-7)] * 3, BLACK), [0] + [word(-7)] * 3)

    def test_all_sums_below_0(self):
        self.assertEqual(lt_score([255] * 64 + [254] * 64, [0, 0], BLACK), [0, word(-16320), word(-32640)])
        self.assertEqual(lt_score([254] * 64 + [255] * 64, [0, 0], BLACK), [1, word(-32640), word(-16320)])
        self.assertEqual(lt_score(WHITE * 3, [word(-3), word(-2), word(-4)], BLACK), [1, word(-3), word(-2), word(-4)])

    def test_one_row(self):
        self.assertEqual(lt_score([1] * 64, [0], STEPS), [0, 2016])
        self.assertEqual(lt_score([255] * 64, [16], STEPS), [0, word(-2000)])
        self.assertEqual(lt_score([128] * 64, [2147483648], BLACK), [0, 2145394688])

    def test_256_rows(self):
        w, start, x = scattered(64 * 256, 8, 5), scattered(256, 32, 6), scattered(64, 8, 7)
        answer = lt_score(w, start, x)
        self.assertEqual(len(answer), 257)
        self.assertEqual(answer, score_by_places(w, start, x))
        self.assertEqual(lt_score(WHITE * 255 + [1] * 64, [0] * 256, [1] * 64), [255] + [0] * 255 + [64])
        self.assertEqual(lt_score([1] * 64 * 256, list(range(256)), [1] * 64), [255] + list(range(64, 320)))
        self.assertEqual(lt_score([1] * 64 * 256, list(range(256))[::-1], [1] * 64), [0] + list(range(64, 320))[::-1])


class WrongInputs(unittest.TestCase):
    def test_no_row(self):
        self.assertEqual(lt_score([], [], []), [-2])
        self.assertEqual(lt_score([], [], list(WHITE)), [-2])
        self.assertEqual(lt_score([], [], list(BLACK)), [-2])

    def test_257_rows(self):
        self.assertEqual(lt_score([0] * 64 * 257, [0] * 257, list(WHITE)), [-2])
        self.assertEqual(lt_score([255] * 64 * 257, [4294967295] * 257, list(BLACK)), [-2])
        self.assertEqual(lt_score(scattered(64 * 257, 8, 1), scattered(257, 32, 2), scattered(64, 8, 3)), [-2])


class EachCallAlone(unittest.TestCase):
    def test_what_is_handed_in_is_not_changed(self):
        for n in [0, 1, 5, 256, 257]:
            rows, begins, numbers = scattered(64 * n, 8, n), scattered(n, 32, n + 1), scattered(64, 8, n + 2)
            w, start, x = Locked(rows), Locked(begins), Locked(numbers)
            lt_score(w, start, x)
            self.assertEqual(list(w), rows)
            self.assertEqual(list(start), begins)
            self.assertEqual(list(x), numbers)

    def test_one_list_may_be_the_weights_and_the_numbers(self):
        both = Locked([3] * 64)
        self.assertEqual(lt_score(both, [1], both), [0, 577])
        self.assertEqual(list(both), [3] * 64)

    def test_one_call_after_the_other(self):
        for _ in range(2):
            first = lt_score([1] * 64 + [2] * 64, [0, 0], [1] * 64)
            self.assertEqual(first, [1, 64, 128])
            first.append(7)
            first[1] = 99
            self.assertEqual(lt_score([], [], []), [-2])
            self.assertEqual(lt_score([1] * 64 + [2] * 64, [65, 0], [1] * 64), [0, 129, 128])
            self.assertEqual(lt_score([255] * 64, [0], [1] * 64), [0, word(-64)])
            self.assertEqual(lt_score([0] * 64 * 257, [0] * 257, list(WHITE)), [-2])

    def test_plain_whole_numbers(self):
        answer = lt_score([1] * 64 + [255] * 64, [0, 4294967295], STEPS)
        self.assertIs(type(answer), list)
        self.assertEqual({type(number) for number in answer}, {int})
