import unittest

from likelettersdesk.fonts import lt_apart, lt_common, lt_middle
from tests.drawing import EMPTY, FULL, KEY, RING, Locked, bars, cut, dots_of, letter_with, scattered


def middle_by_places(font):
    letters = [dots_of(one) for one in cut(font)]
    far = [sum(len(one ^ other) for other in letters) for one in letters]
    first = min(range(len(far)), key=lambda number: (far[number], number))
    return [0, first, far[first]]


class OrdinaryFonts(unittest.TestCase):
    def test_bars_of_some_lengths(self):
        # Two bars are as far apart as their lengths.
        self.assertEqual(lt_middle(bars(10, 3, 4)), [0, 2, 7])
        self.assertEqual(lt_middle(bars(4, 3, 10)), [0, 0, 7])
        self.assertEqual(lt_middle(bars(0, 100, 30, 256, 90)), [0, 4, 90 + 10 + 60 + 166])
        self.assertEqual(lt_middle(bars(256, 0, 255, 254, 17, 16, 3)), [0, 4, 239 + 17 + 238 + 237 + 1 + 14])

    def test_a_few_drawn_letters(self):
        near = list(RING)
        near[0] = 0b111
        # RING has 16 dots and near three more.
        self.assertEqual(lt_middle(EMPTY + near + RING), [0, 2, 16 + 3])
        self.assertEqual(lt_middle(near + RING + near + EMPTY), [0, 0, 3 + 19])
        self.assertEqual(lt_middle(EMPTY + near + RING + EMPTY), [0, 0, 19 + 16])

    def test_it_is_one_of_the_font(self):
        # What they have in common is nearer to all of them together, but it isn't in the font.
        font = bars(1) + [0, 1] + [0] * 14 + [0, 0, 1] + [0] * 13
        self.assertEqual(lt_common(font), [0] + EMPTY)
        self.assertEqual(lt_apart(font, EMPTY), [0, 1, 1, 1])
        self.assertEqual(lt_middle(font), [0, 0, 4])

    def test_letters_given_twice_count_twice(self):
        self.assertEqual(lt_middle(bars(0, 10, 20)), [0, 1, 20])
        self.assertEqual(lt_middle(bars(0, 10, 20, 20, 20)), [0, 2, 30])
        self.assertEqual(lt_middle(bars(0, 0, 10, 0, 20, 0)), [0, 0, 30])

    def test_many_fonts_place_by_place(self):
        for seed, n in enumerate([2, 3, 4, 5, 6, 7, 15, 16, 17, 64]):
            font = scattered(16 * n, 16, seed)
            self.assertEqual(lt_middle(font), middle_by_places(font), n)

    def test_alike_letters_place_by_place(self):
        for seed in range(12):
            font = []
            for word in scattered(3 + seed, 32, 70 + seed):
                one = list(KEY)
                one[word >> 28] ^= word & 0b1000000100000001
                font += one
            self.assertEqual(lt_middle(font), middle_by_places(font), seed)


class Edges(unittest.TestCase):
    def test_a_font_of_one_letter(self):
        for one in [EMPTY, FULL, RING, KEY]:
            self.assertEqual(lt_middle(list(one)), [0, 0, 0])

    def test_a_font_of_two_letters(self):
        # Each is as far from the other, so the first it is.
        self.assertEqual(lt_middle(EMPTY + FULL), [0, 0, 256])
        self.assertEqual(lt_middle(FULL + EMPTY), [0, 0, 256])
        self.assertEqual(lt_middle(RING + EMPTY), [0, 0, 16])
        self.assertEqual(lt_middle(KEY + KEY), [0, 0, 0])

    def test_a_font_of_three_letters(self):
        for number, font in enumerate([bars(5, 0, 9), bars(0, 5, 9), bars(9, 0, 5)]):
            self.assertEqual(lt_middle(font), [0, number, 9])
        self.assertEqual(lt_middle(FULL + EMPTY + FULL), [0, 0, 256])
        self.assertEqual(lt_middle(EMPTY + FULL + FULL), [0, 1, 256])

    def test_a_font_of_256_letters(self):
        font = scattered(16 * 256, 16, 5)
        self.assertEqual(lt_middle(font), middle_by_places(font))
        self.assertEqual(lt_middle(bars(*range(255, -1, -1))), [0, 127, 128 * 128])
        self.assertEqual(lt_middle(EMPTY * 127 + FULL * 129), [0, 127, 127 * 256])
        self.assertEqual(lt_middle(FULL * 128 + EMPTY * 128), [0, 0, 32768])
        self.assertEqual(lt_middle(KEY * 256), [0, 0, 0])

    def test_the_last_of_256_letters(self):
        # Each of the others has a dot of its own: it is one from the last, and two from the others.
        font = [word for number in range(255) for word in letter_with({(number % 16, number // 16)})] + EMPTY
        self.assertEqual(lt_middle(font), [0, 255, 255])

    def test_of_as_far_letters_the_first(self):
        self.assertEqual(lt_middle(bars(0, 10, 10, 20)), [0, 1, 20])
        self.assertEqual(lt_middle(bars(30, 10, 12, 0)), [0, 1, 32])
        self.assertEqual(lt_middle(bars(30, 12, 10, 0)), [0, 1, 32])
        self.assertEqual(lt_middle(bars(12, 30, 0, 10)), [0, 0, 32])
        self.assertEqual(lt_middle(bars(3, 20, 5, 5, 5, 9)), [0, 2, 2 + 15 + 4])
        # Letters of one dot each are all as far from one another, wherever the dot is.
        for start in range(0, 240, 48):
            font = [word for number in range(start, start + 9) for word in letter_with({(number // 16, number % 16)})]
            self.assertEqual(lt_middle(font), [0, 0, 16])

    def test_each_place_counts_once(self):
        for j in range(16):
            for i in range(16):
                place = letter_with({(i, j)})
                rest = [65535 - row for row in place]
                self.assertEqual(lt_middle(EMPTY + place + place), [0, 1, 1], (i, j))
                self.assertEqual(lt_middle(FULL + rest + EMPTY), [0, 1, 256], (i, j))
                self.assertEqual(lt_middle(FULL + place + EMPTY), [0, 1, 256], (i, j))

    def test_as_far_as_the_letters_are_one_by_one(self):
        for seed, n in enumerate([4, 5, 30]):
            font = scattered(16 * n, 16, 90 + seed)
            sums = [sum(lt_apart(font, one)) for one in cut(font)]
            self.assertEqual(lt_middle(font), [0, sums.index(min(sums)), min(sums)], n)


class WrongInputs(unittest.TestCase):
    def test_a_font_of_no_letter(self):
        self.assertEqual(lt_middle([]), [-2])

    def test_a_font_of_257_letters(self):
        self.assertEqual(lt_middle(EMPTY * 257), [-2])
        self.assertEqual(lt_middle(FULL * 257), [-2])
        self.assertEqual(lt_middle(scattered(16 * 257, 16, 7)), [-2])


class EachCallAlone(unittest.TestCase):
    def test_what_is_handed_in_is_not_changed(self):
        for words in [list(RING), RING + FULL + EMPTY, FULL * 256, FULL * 257, []]:
            font = Locked(words)
            lt_middle(font)
            self.assertEqual(list(font), words)

    def test_one_call_after_the_other(self):
        for _ in range(2):
            first = lt_middle(bars(0, 20, 10))
            self.assertEqual(first, [0, 2, 20])
            first.append(7)
            first[1] = 99
            self.assertEqual(lt_middle([]), [-2])
            self.assertEqual(lt_middle(FULL + EMPTY + EMPTY), [0, 1, 256])
            self.assertEqual(lt_middle(EMPTY * 257), [-2])
            self.assertEqual(lt_middle(list(KEY)), [0, 0, 0])

    def test_plain_whole_numbers(self):
        answer = lt_middle(RING + KEY)
        self.assertIs(type(answer), list)
        self.assertEqual({type(number) for number in answer}, {int})
