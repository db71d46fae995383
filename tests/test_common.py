import unittest

from likelettersdesk.fonts import lt_common
from tests.drawing import EMPTY, FULL, KEY, RING, Locked, cut, dots_of, letter, letter_with, scattered


def common_by_places(font):
    letters = [dots_of(one) for one in cut(font)]
    every = [(i, j) for j in range(16) for i in range(16)]
    return [0] + letter_with({place for place in every if 2 * sum(place in one for one in letters) >= len(letters)})


def with_dot_in(part, whole, place):
    """A font of so many letters of which the last so many have a dot there, and nowhere else."""
    return EMPTY * (whole - part) + letter_with({place}) * part


class OrdinaryFonts(unittest.TestCase):
    def test_three_drawn_letters(self):
        top = ["................"] * 5
        under = ["................"] * 8
        one = letter(top + ["....####........", "...#....#.......", "....####........"] + under)
        two = letter(top + ["...####.........", "...#....#.......", "...#####........"] + under)
        three = letter(top + ["....###.........", "...#...##.......", "#..####........."] + under)
        # Two of three have a dot at least.
        both = letter(top + ["....###.........", "...#....#.......", "...#####........"] + under)
        self.assertEqual(lt_common(one + two + three), [0] + both)

    def test_a_single_place_anywhere(self):
        for j in range(16):
            for i in range(16):
                place = letter_with({(i, j)})
                self.assertEqual(lt_common(RING + place + place), [0] + place, (i, j))

    def test_many_fonts_place_by_place(self):
        for seed, n in enumerate([2, 3, 4, 5, 6, 7, 15, 16, 17, 64, 65]):
            font = scattered(16 * n, 16, seed)
            self.assertEqual(lt_common(font), common_by_places(font), n)

    def test_alike_letters(self):
        # Letters of which most bits are those of one.
        font = []
        for number, word in enumerate(scattered(20, 32, 9)):
            one = list(KEY)
            one[word >> 28] ^= word & 65535
            font += one
        self.assertEqual(lt_common(font), common_by_places(font))
        self.assertEqual(lt_common(RING + KEY + RING), [0] + RING)
        self.assertEqual(lt_common(KEY + RING + KEY + KEY), [0] + KEY)


class Edges(unittest.TestCase):
    def test_a_font_of_one_letter(self):
        for one in [EMPTY, FULL, RING, KEY, letter_with({(0, 0)}), letter_with({(15, 15)})]:
            self.assertEqual(lt_common(list(one)), [0] + one)

    def test_a_font_of_two_letters(self):
        # One of two is half of them.
        self.assertEqual(lt_common(RING + EMPTY), [0] + RING)
        self.assertEqual(lt_common(EMPTY + RING), [0] + RING)
        self.assertEqual(lt_common(RING + KEY), [0] + [one | other for one, other in zip(RING, KEY)])
        self.assertEqual(lt_common(EMPTY + EMPTY), [0] + EMPTY)
        self.assertEqual(lt_common(FULL + EMPTY), [0] + FULL)

    def test_a_font_of_three_letters(self):
        self.assertEqual(lt_common(RING + EMPTY + EMPTY), [0] + EMPTY)
        self.assertEqual(lt_common(EMPTY + EMPTY + FULL), [0] + EMPTY)
        self.assertEqual(lt_common(RING + EMPTY + FULL), [0] + RING)
        self.assertEqual(lt_common(KEY + KEY + FULL), [0] + KEY)

    def test_a_font_of_256_letters(self):
        font = scattered(16 * 256, 16, 5)
        answer = lt_common(font)
        self.assertEqual(len(answer), 17)
        self.assertEqual(answer, common_by_places(font))
        self.assertEqual(lt_common(FULL * 256), [0] + FULL)
        self.assertEqual(lt_common(EMPTY * 256), [0] + EMPTY)
        self.assertEqual(lt_common(RING * 128 + EMPTY * 128), [0] + RING)
        self.assertEqual(lt_common(RING * 127 + EMPTY * 129), [0] + EMPTY)

    def test_just_half_and_one_fewer_of_an_even_number(self):
        for whole in [2, 4, 6, 8, 100, 254, 256]:
            for place in [(0, 0), (15, 0), (0, 15), (15, 15), (7, 4)]:
                self.assertEqual(
                    lt_common(with_dot_in(whole // 2, whole, place)), [0] + letter_with({place}), (whole, place))
                self.assertEqual(lt_common(with_dot_in(whole // 2 - 1, whole, place)), [0] + EMPTY, (whole, place))

    def test_just_above_half_and_one_fewer_of_an_odd_number(self):
        for whole in [1, 3, 5, 7, 99, 255]:
            for place in [(0, 0), (15, 0), (0, 15), (15, 15), (7, 4)]:
                self.assertEqual(
                    lt_common(with_dot_in((whole + 1) // 2, whole, place)), [0] + letter_with({place}), (whole, place))
                self.assertEqual(lt_common(with_dot_in((whole - 1) // 2, whole, place)), [0] + EMPTY, (whole, place))

    def test_whichever_letters_have_the_dot(self):
        for whole in [5, 6]:
            for chosen in range(1 << whole):
                font = []
                for number in range(whole):
                    font += letter_with({(3, 12)}) if chosen >> number & 1 else EMPTY
                want = letter_with({(3, 12)}) if 2 * bin(chosen).count("1") >= whole else EMPTY
                self.assertEqual(lt_common(font), [0] + want, (whole, chosen))

    def test_no_letter_is_nearer_to_all_together(self):
        for seed, n in enumerate([1, 2, 3, 8, 9]):
            font = scattered(16 * n, 16, 40 + seed)
            common = lt_common(font)[1:]
            least = sum(len(dots_of(one) ^ dots_of(common)) for one in cut(font))
            for i, j in [(0, 0), (15, 15), (3, 9), (9, 3), (15, 0)]:
                other = dots_of(common) ^ {(i, j)}
                self.assertLessEqual(least, sum(len(dots_of(one) ^ other) for one in cut(font)), (n, i, j))


class WrongInputs(unittest.TestCase):
    def test_a_font_of_no_letter(self):
        self.assertEqual(lt_common([]), [-2])

    def test_a_font_of_257_letters(self):
        self.assertEqual(lt_common(EMPTY * 257), [-2])
        self.assertEqual(lt_common(FULL * 257), [-2])
        self.assertEqual(lt_common(scattered(16 * 257, 16, 7)), [-2])


class EachCallAlone(unittest.TestCase):
    def test_what_is_handed_in_is_not_changed(self):
        for words in [list(RING), RING + FULL + EMPTY, FULL * 256, FULL * 257, []]:
            font = Locked(words)
            lt_common(font)
            self.assertEqual(list(font), words)

    def test_what_is_given_back_is_a_list_of_its_own(self):
        font = list(RING)
        answer = lt_common(font)
        answer[1:] = FULL
        self.assertEqual(font, RING)
        self.assertEqual(lt_common(font), [0] + RING)

    def test_one_call_after_the_other(self):
        for _ in range(2):
            first = lt_common(RING + KEY + RING)
            self.assertEqual(first, [0] + RING)
            first.append(7)
            first[1] = 99
            self.assertEqual(lt_common([]), [-2])
            self.assertEqual(lt_common(FULL + EMPTY), [0] + FULL)
            self.assertEqual(lt_common(EMPTY * 257), [-2])
            self.assertEqual(lt_common(FULL + EMPTY + EMPTY), [0] + EMPTY)

    def test_plain_whole_numbers(self):
        answer = lt_common(RING + KEY)
        self.assertIs(type(answer), list)
        self.assertEqual({type(number) for number in answer}, {int})
