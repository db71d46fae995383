import unittest
from itertools import permutations

from likelettersdesk.fonts import lt_apart, lt_groups
from tests.drawing import EMPTY, FULL, KEY, RING, Locked, bars, cut, dots_of, letter_with, scattered

CLOSE = 4294967295


def groups_by_places(d, font):
    """Of each letter the least number of those it can be reached from, told step by step until no number sinks."""
    letters = [dots_of(one) for one in cut(font)]
    least = list(range(len(letters)))
    before = None
    while before != least:
        before = list(least)
        for i, one in enumerate(letters):
            least[i] = min(before[j] for j, other in enumerate(letters) if j == i or len(one ^ other) <= d)
    return [len(set(least))] + least


def patched(seed, count, marks):
    """Letters that are KEY but for a few dots, so that some are near to each other and some aren't."""
    font = []
    for word in scattered(count, 32, seed):
        one = list(KEY)
        one[word >> 28] ^= word & marks
        one[word >> 24 & 15] ^= word >> 8 & marks
        font += one
    return font


class OrdinaryFonts(unittest.TestCase):
    def test_bars_of_some_lengths(self):
        self.assertEqual(lt_groups(3, bars(10, 50, 12, 53, 200, 15)), [3, 0, 1, 0, 1, 4, 0])
        self.assertEqual(lt_groups(2, bars(10, 50, 12, 53, 200, 15)), [5, 0, 1, 0, 3, 4, 5])
        self.assertEqual(lt_groups(1, bars(10, 50, 12, 53, 200, 15)), [6, 0, 1, 2, 3, 4, 5])
        self.assertEqual(lt_groups(38, bars(10, 50, 12, 53, 200, 15)), [2, 0, 0, 0, 0, 4, 0])
        self.assertEqual(lt_groups(147, bars(10, 50, 12, 53, 200, 15)), [1, 0, 0, 0, 0, 0, 0])

    def test_a_few_drawn_letters(self):
        near = list(RING)
        near[0] = 0b111
        # RING has 16 dots, near three more.
        font = KEY + near + EMPTY + RING
        self.assertEqual(lt_groups(2, font), [4, 0, 1, 2, 3])
        self.assertEqual(lt_groups(3, font), [3, 0, 1, 2, 1])
        self.assertEqual(lt_groups(15, font), [3, 0, 1, 2, 1])
        self.assertEqual(lt_groups(16, font), [2, 0, 1, 1, 1])

    def test_a_single_place_anywhere(self):
        for j in range(16):
            for i in range(16):
                font = FULL + letter_with({(i, j)}) + EMPTY
                self.assertEqual(lt_groups(0, font), [3, 0, 1, 2], (i, j))
                self.assertEqual(lt_groups(1, font), [2, 0, 1, 1], (i, j))
                self.assertEqual(lt_groups(254, font), [2, 0, 1, 1], (i, j))
                self.assertEqual(lt_groups(255, font), [1, 0, 0, 0], (i, j))

    def test_many_fonts_place_by_place(self):
        for seed, n in enumerate([1, 2, 3, 15, 16, 17, 40]):
            font = scattered(16 * n, 16, seed)
            for d in [0, 100, 108, 112, 116, 120, 124, 128, 150]:
                self.assertEqual(lt_groups(d, font), groups_by_places(d, font), (n, d))

    def test_alike_letters_place_by_place(self):
        sizes = set()
        for seed in range(12):
            font = patched(40 + seed, 6 + 2 * seed, 0b1000100100000001)
            for d in range(8):
                answer = lt_groups(d, font)
                self.assertEqual(answer, groups_by_places(d, font), (seed, d))
                sizes.add(answer[0])
        self.assertGreater(len(sizes), 10)


class Reached(unittest.TestCase):
    def test_a_chain_in_every_order(self):
        # Each is two from the next; the first and the last are eight apart.
        for lengths in permutations([20, 22, 24, 26, 28]):
            self.assertEqual(lt_groups(2, bars(*lengths)), [1, 0, 0, 0, 0, 0], lengths)
            self.assertEqual(lt_groups(1, bars(*lengths)), [5, 0, 1, 2, 3, 4], lengths)

    def test_two_chains_in_every_order(self):
        for lengths in permutations([20, 23, 26, 70, 72, 75]):
            low = min(lengths.index(length) for length in [20, 23, 26])
            high = min(lengths.index(length) for length in [70, 72, 75])
            least = [low if length < 50 else high for length in lengths]
            self.assertEqual(lt_groups(3, bars(*lengths)), [2] + least, lengths)

    def test_a_chain_as_long_as_the_font(self):
        up = list(range(256))
        mixed = [number * 77 % 256 for number in up]
        halves = [number // 2 + 128 * (number % 2) for number in up]
        for lengths in [up, up[::-1], mixed, halves, up[128:] + up[:128]]:
            self.assertEqual(lt_groups(1, bars(*lengths)), [1] + [0] * 256)
            self.assertEqual(lt_groups(0, bars(*lengths)), [256] + up)

    def test_a_long_chain_with_one_gap(self):
        lengths = [length for length in range(257) if length != 100]
        self.assertEqual(lt_groups(1, bars(*lengths)), [2] + [0] * 100 + [100] * 156)
        # Turned about, the letters above the gap come first.
        self.assertEqual(lt_groups(1, bars(*lengths[::-1])), [2] + [0] * 156 + [156] * 100)
        self.assertEqual(lt_groups(2, bars(*lengths)), [1] + [0] * 256)

    def test_two_chains_that_only_the_last_letter_joins(self):
        font = bars(10, 30, 13, 27, 16, 24)
        self.assertEqual(lt_groups(4, font), [2, 0, 1, 0, 1, 0, 1])
        self.assertEqual(lt_groups(4, font + bars(20)), [1] + [0] * 7)

    def test_many_branches_from_one_letter(self):
        # Each of the others has a dot of its own: it is one from the last, and two from the others.
        font = [word for number in range(255) for word in letter_with({(number % 16, number // 16)})] + EMPTY
        self.assertEqual(lt_groups(0, font), [256] + list(range(256)))
        self.assertEqual(lt_groups(1, font), [1] + [0] * 256)
        self.assertEqual(lt_groups(1, font[:-16]), [255] + list(range(255)))
        self.assertEqual(lt_groups(2, font[:-16]), [1] + [0] * 255)

    def test_each_step_counts_alone_not_all_together(self):
        self.assertEqual(lt_groups(10, bars(0, 10, 20, 30, 41)), [2, 0, 0, 0, 0, 4])
        self.assertEqual(lt_groups(10, bars(41, 30, 20, 10, 0)), [2, 0, 1, 1, 1, 1])


class Edges(unittest.TestCase):
    def test_d_of_0_with_equal_letters(self):
        font = RING + KEY + RING + EMPTY + KEY + RING
        self.assertEqual(lt_groups(0, font), [3, 0, 1, 0, 3, 1, 0])
        self.assertEqual(lt_groups(0, KEY * 5), [1, 0, 0, 0, 0, 0])
        self.assertEqual(lt_groups(0, EMPTY + FULL * 3), [2, 0, 1, 1, 1])

    def test_d_of_0_with_none_equal(self):
        self.assertEqual(lt_groups(0, RING + KEY + EMPTY + FULL), [4, 0, 1, 2, 3])
        self.assertEqual(lt_groups(0, bars(7, 6, 5, 4)), [4, 0, 1, 2, 3])

    def test_d_that_every_letter_is_within(self):
        for d in [256, 257, 65536, 2147483648, CLOSE]:
            self.assertEqual(lt_groups(d, EMPTY + FULL), [1, 0, 0], d)
            self.assertEqual(lt_groups(d, RING + KEY + EMPTY + FULL), [1, 0, 0, 0, 0], d)
            self.assertEqual(lt_groups(d, scattered(16 * 256, 16, 3)), [1] + [0] * 256, d)
        self.assertEqual(lt_groups(255, EMPTY + FULL), [2, 0, 1])

    def test_a_distance_of_just_d_and_one_more(self):
        for d in [0, 1, 2, 15, 16, 17, 31, 127, 128, 254, 255]:
            self.assertEqual(lt_groups(d, bars(0, d)), [1, 0, 0], d)
            self.assertEqual(lt_groups(d, bars(0, d + 1)), [2, 0, 1], d)
            self.assertEqual(lt_groups(d, bars(d + 1, 0)), [2, 0, 1], d)

    def test_the_least_number_its_own_too(self):
        # The letter of number 1 is alone, 2 and 4 are together, 0, 3 and 5 too.
        self.assertEqual(lt_groups(5, bars(100, 0, 200, 105, 203, 95)), [3, 0, 1, 2, 0, 2, 0])
        self.assertEqual(lt_groups(5, bars(0, 100, 105, 95)), [2, 0, 1, 1, 1])
        self.assertEqual(lt_groups(5, bars(95, 105, 100, 0)), [2, 0, 0, 0, 3])

    def test_a_font_of_one_letter(self):
        for one in [EMPTY, FULL, RING, KEY]:
            for d in [0, 1, 256, CLOSE]:
                self.assertEqual(lt_groups(d, list(one)), [1, 0], d)

    def test_a_font_of_256_letters(self):
        font = scattered(16 * 256, 16, 5)
        for d in [90, 96, 100]:
            self.assertEqual(lt_groups(d, font), groups_by_places(d, font), d)
        self.assertEqual(lt_groups(0, KEY * 256), [1] + [0] * 256)
        self.assertEqual(lt_groups(0, (EMPTY + FULL) * 128), [2] + [0, 1] * 128)
        self.assertEqual(lt_groups(255, EMPTY * 255 + FULL), [2] + [0] * 255 + [255])

    def test_as_far_as_lt_apart_tells(self):
        font = patched(9, 30, 0b0110000000010010)
        for d in range(5):
            least = lt_groups(d, font)[1:]
            for one, number in zip(cut(font), least):
                near = [other for other, far in enumerate(lt_apart(font, one)[1:]) if far <= d]
                self.assertEqual({least[other] for other in near}, {number}, d)


class WrongInputs(unittest.TestCase):
    def test_a_font_of_no_letter(self):
        for d in [0, 1, 256, CLOSE]:
            self.assertEqual(lt_groups(d, []), [-2], d)

    def test_a_font_of_257_letters(self):
        for d in [0, 1, 256, CLOSE]:
            self.assertEqual(lt_groups(d, EMPTY * 257), [-2], d)
            self.assertEqual(lt_groups(d, scattered(16 * 257, 16, 7)), [-2], d)


class EachCallAlone(unittest.TestCase):
    def test_what_is_handed_in_is_not_changed(self):
        for words in [list(RING), RING + FULL + EMPTY, FULL * 256, FULL * 257, []]:
            for d in [0, 16, CLOSE]:
                font = Locked(words)
                lt_groups(d, font)
                self.assertEqual(list(font), words)

    def test_one_call_after_the_other(self):
        for _ in range(2):
            first = lt_groups(3, bars(0, 20, 3))
            self.assertEqual(first, [2, 0, 1, 0])
            first.append(7)
            first[1] = 99
            self.assertEqual(lt_groups(3, []), [-2])
            self.assertEqual(lt_groups(2, bars(0, 20, 3)), [3, 0, 1, 2])
            self.assertEqual(lt_groups(17, bars(0, 20, 3)), [1, 0, 0, 0])
            self.assertEqual(lt_groups(3, EMPTY * 257), [-2])
            self.assertEqual(lt_groups(0, list(KEY)), [1, 0])

    def test_plain_whole_numbers(self):
        answer = lt_groups(1, RING + KEY + RING)
        self.assertIs(type(answer), list)
        self.assertEqual({type(number) for number in answer}, {int})
