import unittest

from likelettersdesk.fonts import lt_apart
from tests.drawing import EMPTY, FULL, RING, Locked, cut, dots_of, scattered


def apart_by_places(font, a):
    return [0] + [len(dots_of(one) ^ dots_of(a)) for one in cut(font)]


class OrdinaryLetters(unittest.TestCase):
    def test_a_few_drawn_letters(self):
        fewer = list(RING)
        fewer[3] = 0
        more = list(RING)
        more[0] = 0b1000000000000001
        both = list(RING)
        both[8] = RING[8] << 1
        self.assertEqual(lt_apart(RING + fewer + more + both + EMPTY, list(RING)), [0, 0, 4, 2, 2, 16])

    def test_letter_by_letter_in_turn(self):
        font = EMPTY + FULL + [1] + [0] * 15 + [0] * 15 + [32768 + 1]
        self.assertEqual(lt_apart(font, EMPTY), [0, 0, 256, 1, 2])
        self.assertEqual(lt_apart(font, FULL), [0, 256, 0, 255, 254])

    def test_rows_are_held_against_their_own_rows(self):
        self.assertEqual(lt_apart([1, 2] + [0] * 14, [2, 1] + [0] * 14), [0, 4])
        self.assertEqual(lt_apart([1] + [0] * 15, [0] * 15 + [1]), [0, 2])

    def test_a_single_place_anywhere(self):
        for j in range(16):
            for i in range(16):
                a = [0] * j + [1 << i] + [0] * (15 - j)
                self.assertEqual(lt_apart(EMPTY + a + FULL, a), [0, 1, 0, 255], (i, j))

    def test_many_fonts_place_by_place(self):
        for seed, n in enumerate([1, 2, 3, 15, 16, 17, 64]):
            font = scattered(16 * n, 16, seed)
            a = scattered(16, 16, 100 + seed)
            self.assertEqual(lt_apart(font, a), apart_by_places(font, a), n)


class Edges(unittest.TestCase):
    def test_a_font_of_one_letter(self):
        self.assertEqual(lt_apart(list(RING), list(RING)), [0, 0])
        self.assertEqual(lt_apart(list(RING), EMPTY), [0, 16])

    def test_a_font_of_256_letters(self):
        font = scattered(16 * 256, 16, 5)
        a = scattered(16, 16, 6)
        answer = lt_apart(font, a)
        self.assertEqual(len(answer), 257)
        self.assertEqual(answer, apart_by_places(font, a))
        self.assertEqual(lt_apart(EMPTY * 255 + FULL, FULL), [0] + [256] * 255 + [0])

    def test_alike_and_different_everywhere(self):
        other = [65535 - row for row in RING]
        self.assertEqual(lt_apart(RING + other, list(RING)), [0, 0, 256])
        self.assertEqual(lt_apart(RING + other, other), [0, 256, 0])


class WrongInputs(unittest.TestCase):
    def test_a_font_of_no_letter(self):
        self.assertEqual(lt_apart([], []), [-2])
        self.assertEqual(lt_apart([], list(RING)), [-2])
        self.assertEqual(lt_apart([], EMPTY), [-2])

    def test_a_font_of_257_letters(self):
        self.assertEqual(lt_apart(EMPTY * 257, EMPTY), [-2])
        self.assertEqual(lt_apart(scattered(16 * 257, 16, 7), list(RING)), [-2])


class EachCallAlone(unittest.TestCase):
    def test_what_is_handed_in_is_not_changed(self):
        font = Locked(RING + FULL + EMPTY)
        a = Locked(scattered(16, 16, 8))
        lt_apart(font, a)
        self.assertEqual(list(font), RING + FULL + EMPTY)
        self.assertEqual(list(a), scattered(16, 16, 8))
        font = Locked(FULL * 257)
        lt_apart(font, a)
        self.assertEqual(list(font), FULL * 257)
        self.assertEqual(list(a), scattered(16, 16, 8))

    def test_the_font_may_be_the_letter_itself(self):
        both = Locked(RING)
        self.assertEqual(lt_apart(both, both), [0, 0])
        self.assertEqual(list(both), RING)

    def test_one_call_after_the_other(self):
        for _ in range(2):
            first = lt_apart(RING + EMPTY, list(RING))
            self.assertEqual(first, [0, 0, 16])
            first.append(7)
            first[1] = 99
            self.assertEqual(lt_apart([], []), [-2])
            self.assertEqual(lt_apart(FULL + EMPTY, FULL), [0, 0, 256])

    def test_plain_whole_numbers(self):
        answer = lt_apart(RING + EMPTY, list(RING))
        self.assertIs(type(answer), list)
        self.assertEqual({type(number) for number in answer}, {int})
