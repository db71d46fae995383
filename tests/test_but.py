import unittest

from likelettersdesk.fonts import lt_apart, lt_but
from tests.drawing import EMPTY, FULL, KEY, RING, Locked, cut, dots_of, letter_with, scattered


def but_by_places(font, c, a):
    return [0] + [len((dots_of(one) ^ dots_of(a)) - dots_of(c)) for one in cut(font)]


class OrdinaryLetters(unittest.TestCase):
    def test_a_few_drawn_letters(self):
        fewer = list(RING)
        fewer[3] = 0
        more = list(RING)
        more[0] = 0b1000000000000001
        # Row 3 is hidden, and column 15 of each row.
        c = [32768] * 3 + [65535] + [32768] * 12
        self.assertEqual(lt_but(RING + fewer + more + EMPTY, c, list(RING)), [0, 0, 0, 1, 12])

    def test_letter_by_letter_in_turn(self):
        font = EMPTY + FULL + [1] + [0] * 15 + [0] * 15 + [32768 + 1]
        c = [1] * 16
        self.assertEqual(lt_but(font, c, EMPTY), [0, 0, 240, 0, 1])
        self.assertEqual(lt_but(font, c, FULL), [0, 240, 0, 240, 239])

    def test_rows_are_hidden_by_their_own_rows(self):
        c = [0, 0, 0, 255] + [0] * 12
        font = [0, 0, 0, 15] + [0] * 12 + [0] * 12 + [15, 0, 0, 0] + [0, 0, 0, 15 << 8] + [0] * 12
        self.assertEqual(lt_but(font, c, EMPTY), [0, 0, 4, 4])

    def test_the_second_hides_and_the_third_is_held_against(self):
        one, two, three = letter_with({(0, 0), (1, 0)}), letter_with({(1, 0), (5, 5)}), letter_with({(9, 9)})
        # The places where just one has a dot are (0, 0), (1, 0), (9, 9), and (1, 0) is hidden.
        self.assertEqual(lt_but(one, two, three), [0, 2])
        # They are (0, 0), (5, 5), and none of them is hidden.
        self.assertEqual(lt_but(one, three, two), [0, 2])
        # They are (1, 0), (5, 5), (9, 9), and (1, 0) is hidden.
        self.assertEqual(lt_but(two, one, three), [0, 2])
        self.assertEqual(lt_but(two + three, EMPTY, three), [0, 3, 0])

    def test_many_fonts_place_by_place(self):
        for seed, n in enumerate([1, 2, 3, 15, 16, 17, 64]):
            font = scattered(16 * n, 16, seed)
            c = scattered(16, 16, 200 + seed)
            a = scattered(16, 16, 100 + seed)
            self.assertEqual(lt_but(font, c, a), but_by_places(font, c, a), n)


class Edges(unittest.TestCase):
    def test_nothing_is_hidden(self):
        font = scattered(16 * 20, 16, 3)
        self.assertEqual(lt_but(font, EMPTY, list(KEY)), lt_apart(font, list(KEY)))
        self.assertEqual(lt_but(EMPTY + FULL, EMPTY, EMPTY), [0, 0, 256])

    def test_all_is_hidden(self):
        self.assertEqual(lt_but(scattered(16 * 20, 16, 3), FULL, list(KEY)), [0] * 21)
        self.assertEqual(lt_but(EMPTY + FULL, FULL, EMPTY), [0, 0, 0])

    def test_all_but_one_place_is_hidden(self):
        for j in range(16):
            for i in range(16):
                place = letter_with({(i, j)})
                rest = [65535 - row for row in place]
                self.assertEqual(lt_but(EMPTY + FULL + place + rest, rest, EMPTY), [0, 0, 1, 1, 0], (i, j))
                self.assertEqual(lt_but(EMPTY + FULL + place + rest, rest, FULL), [0, 1, 0, 0, 1], (i, j))

    def test_hidden_where_just_one_of_two_has_a_dot(self):
        both, mine, its = (2, 2), (15, 7), (0, 15)
        one, a = letter_with({both, its}), letter_with({both, mine})
        self.assertEqual(lt_but(one, EMPTY, a), [0, 2])
        self.assertEqual(lt_but(one, letter_with({mine}), a), [0, 1])
        self.assertEqual(lt_but(one, letter_with({its}), a), [0, 1])
        self.assertEqual(lt_but(one, letter_with({mine, its}), a), [0, 0])

    def test_hidden_where_both_or_none_has_a_dot(self):
        one, a = letter_with({(2, 2), (0, 15)}), letter_with({(2, 2), (15, 7)})
        self.assertEqual(lt_but(one, letter_with({(2, 2)}), a), [0, 2])
        self.assertEqual(lt_but(one, letter_with({(8, 8)}), a), [0, 2])
        self.assertEqual(lt_but(one, letter_with({(2, 2), (8, 8)}), a), [0, 2])

    def test_a_font_of_one_letter(self):
        self.assertEqual(lt_but(FULL, list(RING), EMPTY), [0, 240])
        self.assertEqual(lt_but(list(RING), list(RING), EMPTY), [0, 0])

    def test_a_font_of_256_letters(self):
        font = scattered(16 * 256, 16, 5)
        c, a = scattered(16, 16, 6), scattered(16, 16, 7)
        answer = lt_but(font, c, a)
        self.assertEqual(len(answer), 257)
        self.assertEqual(answer, but_by_places(font, c, a))
        self.assertEqual(lt_but(EMPTY * 255 + FULL, list(RING), FULL), [0] + [240] * 255 + [0])


class WrongInputs(unittest.TestCase):
    def test_a_font_of_no_letter(self):
        self.assertEqual(lt_but([], [], []), [-2])
        self.assertEqual(lt_but([], EMPTY, list(RING)), [-2])
        self.assertEqual(lt_but([], FULL, []), [-2])

    def test_a_font_of_257_letters(self):
        self.assertEqual(lt_but(EMPTY * 257, EMPTY, EMPTY), [-2])
        self.assertEqual(lt_but(EMPTY * 257, FULL, EMPTY), [-2])
        self.assertEqual(lt_but(scattered(16 * 257, 16, 7), list(KEY), list(RING)), [-2])


class EachCallAlone(unittest.TestCase):
    def test_what_is_handed_in_is_not_changed(self):
        for words in [RING + FULL + EMPTY, FULL * 256, FULL * 257]:
            font, c, a = Locked(words), Locked(KEY), Locked(RING)
            lt_but(font, c, a)
            self.assertEqual(list(font), words)
            self.assertEqual(list(c), KEY)
            self.assertEqual(list(a), RING)

    def test_one_list_may_be_all_three(self):
        one = Locked(RING)
        self.assertEqual(lt_but(one, one, one), [0, 0])
        self.assertEqual(lt_but(Locked(FULL), one, one), [0, 240])
        self.assertEqual(list(one), RING)

    def test_one_call_after_the_other(self):
        for _ in range(2):
            first = lt_but(RING + FULL, list(RING), EMPTY)
            self.assertEqual(first, [0, 0, 240])
            first.append(7)
            first[1] = 99
            self.assertEqual(lt_but([], [], []), [-2])
            self.assertEqual(lt_but(RING + FULL, EMPTY, EMPTY), [0, 16, 256])
            self.assertEqual(lt_but(RING + FULL, FULL, EMPTY), [0, 0, 0])

    def test_plain_whole_numbers(self):
        answer = lt_but(RING + EMPTY, list(KEY), list(RING))
        self.assertIs(type(answer), list)
        self.assertEqual({type(number) for number in answer}, {int})
