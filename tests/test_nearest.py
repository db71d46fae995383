import unittest

from likelettersdesk.fonts import lt_apart, lt_nearest
from tests.drawing import EMPTY, FULL, KEY, RING, Locked, cut, dots_of, letter, letter_with, scattered

STEPS = [(dx, dy) for dx in range(-4, 5) for dy in range(-4, 5)]
HOOK = letter(["................"] * 5 + [
    ".....######.....",
    ".........##.....",
    "......#..##.....",
    ".......###......",
] + ["................"] * 7)


def moved_dots(dots, dx, dy):
    return {(i + dx, j + dy) for i, j in dots if 0 <= i + dx < 16 and 0 <= j + dy < 16}


def moved(a, dx, dy):
    return letter_with(moved_dots(dots_of(a), dx, dy))


def nearest_by_places(s, names, font, a):
    held = [moved_dots(dots_of(a), dx, dy) for dx, dy in STEPS if max(abs(dx), abs(dy)) <= s]
    far = [min(len(dots_of(one) ^ dots) for dots in held) for one in cut(font)]
    first = min(range(len(far)), key=lambda number: (far[number], number))
    others = [far[number] for number in range(len(far)) if names[number] != names[first]]
    return [0, first, far[first], min(others + [257])]


class OrdinaryLetters(unittest.TestCase):
    def test_a_few_drawn_letters(self):
        near = list(RING)
        near[0] = 0b111
        font = EMPTY + near + KEY
        # RING has 16 dots, near three more.
        self.assertEqual(lt_nearest(0, [7, 8, 9], font, list(RING)), [0, 1, 3, 16])
        self.assertEqual(lt_nearest(0, [8, 8, 8], font, list(RING)), [0, 1, 3, 257])
        # Moved right and up by four, all but six of a's dots leave it.
        self.assertEqual(lt_nearest(4, [7, 8, 9], font, moved(RING, 3, -2)), [0, 1, 3, 6])

    def test_the_next_of_another_name_is_moved_likewise(self):
        # Two to the right and one up a is the second letter and another dot, one up the third and two others.
        a = letter_with({(2, 5), (3, 6), (4, 7), (5, 8), (6, 9), (7, 10)})
        second = letter_with({(5, 5), (6, 6), (7, 7), (8, 8), (9, 9)})
        third = letter_with({(2, 4), (3, 5), (4, 6), (5, 7)})
        font = FULL + second + third
        self.assertEqual(lt_nearest(4, [1, 2, 3], font, a), [0, 1, 1, 2])
        self.assertEqual(lt_nearest(2, [1, 2, 3], font, a), [0, 1, 1, 2])
        self.assertEqual(lt_nearest(1, [1, 2, 3], font, a), [0, 2, 2, 11])
        self.assertEqual(lt_nearest(0, [1, 2, 3], font, a), [0, 2, 10, 11])
        self.assertEqual(lt_nearest(2, [1, 2, 2], font, a), [0, 1, 1, 250])

    def test_many_fonts_place_by_place(self):
        for seed in range(12):
            s, n = seed % 5, 1 + seed
            font = scattered(16 * n, 16, seed)
            names = [number % 3 for number in scattered(n, 32, 50 + seed)]
            a = scattered(16, 16, 100 + seed)
            self.assertEqual(lt_nearest(s, names, font, a), nearest_by_places(s, names, font, a), seed)

    def test_letters_alike_but_for_steps_and_a_few_dots(self):
        for seed in range(10):
            font, names = [], []
            for number, word in enumerate(scattered(8, 32, seed)):
                dx, dy = STEPS[word % 81]
                one = moved(KEY, dx, dy)
                one[word >> 28] ^= word >> 12 & 0b101
                font += one
                names.append(word >> 8 & 1)
            for s in range(5):
                self.assertEqual(lt_nearest(s, names, font, list(KEY)), nearest_by_places(s, names, font, KEY))


class Moved(unittest.TestCase):
    def test_each_step_is_tried_up_to_s(self):
        for dx, dy in STEPS:
            for s in range(5):
                answer = lt_nearest(s, [1], moved(HOOK, dx, dy), list(HOOK))
                self.assertEqual(answer[2] == 0, max(abs(dx), abs(dy)) <= s, (dx, dy, s))
                self.assertEqual(answer, nearest_by_places(s, [1], moved(HOOK, dx, dy), HOOK), (dx, dy, s))

    def test_no_step_farther_than_four(self):
        for dx, dy in [(5, 0), (-5, 0), (0, 5), (0, -5), (5, 5), (-5, 4), (4, -5)]:
            self.assertGreater(lt_nearest(4, [1], moved(HOOK, dx, dy), list(HOOK))[2], 0, (dx, dy))

    def test_one_dot_right_left_down_and_up(self):
        # The anchor at (8, 8) tells the step; only one of the eight ones about it fits.
        for dx, dy in [(1, 0), (-1, 0), (0, 1), (0, -1), (1, 1), (1, -1), (-1, 1), (-1, -1)]:
            a = letter_with({(8, 8), (5, 3), (11, 4)})
            font = letter_with({(8 + dx, 8 + dy), (5 + dx, 3 + dy), (11 + dx, 4 + dy)})
            self.assertEqual(lt_nearest(0, [1], font, a), [0, 0, 6, 257], (dx, dy))
            self.assertEqual(lt_nearest(1, [1], font, a), [0, 0, 0, 257], (dx, dy))

    def test_dots_leave_at_each_edge_and_do_not_come_back(self):
        for dx, dy in [(4, 0), (-4, 0), (0, 4), (0, -4), (4, 4), (-4, 4), (4, -4), (-4, -4), (1, -2)]:
            rest = moved(KEY, dx, dy)
            self.assertLess(len(dots_of(rest)), len(dots_of(KEY)))
            self.assertEqual(lt_nearest(4, [1], rest, list(KEY)), [0, 0, 0, 257], (dx, dy))

    def test_a_dot_at_an_edge_is_lost(self):
        for place in [(0, 8), (15, 8), (8, 0), (8, 15), (0, 0), (15, 0), (0, 15), (15, 15)]:
            a = letter_with({place})
            self.assertEqual(lt_nearest(0, [1], EMPTY, a), [0, 0, 1, 257], place)
            self.assertEqual(lt_nearest(1, [1], EMPTY, a), [0, 0, 0, 257], place)
        for place in [(3, 8), (12, 8), (8, 3), (8, 12)]:
            a = letter_with({place})
            self.assertEqual(lt_nearest(3, [1], EMPTY, a), [0, 0, 1, 257], place)
            self.assertEqual(lt_nearest(4, [1], EMPTY, a), [0, 0, 0, 257], place)

    def test_a_dot_does_not_come_round(self):
        sides = [(0, 8), (15, 8), (8, 0), (8, 15)]
        for place, across in zip(sides, [sides[1], sides[0], sides[3], sides[2]]):
            self.assertEqual(lt_nearest(4, [1], letter_with({across}), letter_with({place})), [0, 0, 1, 257])
        # Nor does it come into the row beside its own.
        self.assertEqual(lt_nearest(4, [1], letter_with({(0, 8)}), letter_with({(15, 7)})), [0, 0, 1, 257])
        self.assertEqual(lt_nearest(4, [1], letter_with({(15, 7)}), letter_with({(0, 8)})), [0, 0, 1, 257])

    def test_white_comes_in(self):
        for dx, dy in [(3, 0), (-3, 0), (0, 3), (0, -3), (2, 1), (-1, -4)]:
            part = {(i, j) for i in range(16) for j in range(16) if 0 <= i - dx < 16 and 0 <= j - dy < 16}
            white = 256 - len(part)
            self.assertEqual(lt_nearest(0, [1], letter_with(part), FULL), [0, 0, white, 257], (dx, dy))
            self.assertEqual(lt_nearest(4, [1], letter_with(part), FULL), [0, 0, 0, 257], (dx, dy))

    def test_only_the_letter_told_last_is_moved(self):
        # Moved, the one loses a column (or row) of dots that the other still has.
        for dx, dy in [(1, 0), (-1, 0), (0, 1), (0, -1)]:
            rest = moved(FULL, dx, dy)
            self.assertEqual(lt_nearest(1, [1], rest, FULL), [0, 0, 0, 257], (dx, dy))
            self.assertEqual(lt_nearest(1, [1], FULL, rest), [0, 0, 16, 257], (dx, dy))
        self.assertEqual(lt_nearest(4, [1], EMPTY, letter_with({(15, 3)})), [0, 0, 0, 257])
        self.assertEqual(lt_nearest(4, [1], letter_with({(15, 3)}), EMPTY), [0, 0, 1, 257])


class Edges(unittest.TestCase):
    def test_not_moved_at_all(self):
        font = scattered(16 * 9, 16, 4)
        far = lt_apart(font, list(KEY))[1:]
        answer = lt_nearest(0, list(range(9)), font, list(KEY))
        self.assertEqual(answer, [0, far.index(min(far)), sorted(far)[0], sorted(far)[1]])
        self.assertEqual(lt_nearest(0, [1], moved(HOOK, 1, 0), list(HOOK))[2], len(dots_of(HOOK) ^ dots_of(
            moved(HOOK, 1, 0))))

    def test_of_as_near_letters_the_first(self):
        one, two = letter_with({(0, 0), (8, 8)}), letter_with({(8, 8), (15, 15)})
        a = letter_with({(8, 8)})
        self.assertEqual(lt_nearest(0, [5, 6], one + two, a), [0, 0, 1, 1])
        self.assertEqual(lt_nearest(0, [6, 5], two + one, a), [0, 0, 1, 1])
        self.assertEqual(lt_nearest(0, [3, 5, 6, 5], FULL + two + one + two, a), [0, 1, 1, 1])
        self.assertEqual(lt_nearest(0, [3, 5, 5, 5], FULL + two + one + two, a), [0, 1, 1, 255])
        # The first is as near moved as the second where it stands.
        self.assertEqual(lt_nearest(4, [5, 6], moved(HOOK, 4, -4) + HOOK, list(HOOK)), [0, 0, 0, 0])
        self.assertEqual(lt_nearest(4, [5, 6], HOOK + moved(HOOK, 4, -4), list(HOOK)), [0, 0, 0, 0])
        self.assertEqual(lt_nearest(3, [5, 6], moved(HOOK, 4, -4) + HOOK, list(HOOK))[:3], [0, 1, 0])

    def test_all_letters_of_one_name(self):
        font = scattered(16 * 12, 16, 2)
        for name in [0, 1, 4294967295]:
            self.assertEqual(lt_nearest(2, [name] * 12, font, list(KEY))[3], 257, name)
        self.assertEqual(lt_nearest(0, [9, 9], EMPTY + FULL, EMPTY), [0, 0, 0, 257])

    def test_another_name_ahead_of_and_behind_the_nearest(self):
        a = letter_with({(8, 8)})
        one = letter_with({(8, 8), (0, 0)})
        two = letter_with({(8, 8), (0, 0), (0, 1)})
        three = letter_with({(8, 8), (0, 0), (0, 1), (0, 2)})
        self.assertEqual(lt_nearest(0, [4, 5], two + one, a), [0, 1, 1, 2])
        self.assertEqual(lt_nearest(0, [5, 4], one + two, a), [0, 0, 1, 2])
        self.assertEqual(lt_nearest(0, [4, 5, 6], three + one + two, a), [0, 1, 1, 2])
        self.assertEqual(lt_nearest(0, [4, 5, 6], two + one + three, a), [0, 1, 1, 2])
        # Letters of the nearest one's name don't count, ahead of it or behind it.
        self.assertEqual(lt_nearest(0, [5, 5, 6], two + one + three, a), [0, 1, 1, 3])
        self.assertEqual(lt_nearest(0, [6, 5, 5], three + one + two, a), [0, 1, 1, 3])
        self.assertEqual(lt_nearest(0, [5, 6, 5], one + three + one, a), [0, 0, 1, 3])

    def test_another_name_everywhere_different(self):
        self.assertEqual(lt_nearest(0, [1, 2], EMPTY + FULL, EMPTY), [0, 0, 0, 256])
        self.assertEqual(lt_nearest(4, [1, 2], FULL + EMPTY, EMPTY), [0, 1, 0, 256])
        self.assertEqual(lt_nearest(4, [1], FULL, EMPTY), [0, 0, 256, 257])

    def test_the_least_and_the_greatest_name(self):
        self.assertEqual(lt_nearest(0, [0, 4294967295], EMPTY + FULL, EMPTY), [0, 0, 0, 256])
        self.assertEqual(lt_nearest(0, [4294967295, 0], EMPTY + FULL, EMPTY), [0, 0, 0, 256])
        self.assertEqual(lt_nearest(0, [4294967295, 4294967295], EMPTY + FULL, FULL), [0, 1, 0, 257])
        self.assertEqual(lt_nearest(0, [0, 0], EMPTY + FULL, FULL), [0, 1, 0, 257])
        # Names that are alike in all bits but the highest, and words that are no number of a letter.
        self.assertEqual(lt_nearest(0, [4294967295, 2147483647], FULL + EMPTY, FULL), [0, 0, 0, 256])

    def test_a_font_of_one_letter(self):
        self.assertEqual(lt_nearest(0, [0], list(RING), list(RING)), [0, 0, 0, 257])
        self.assertEqual(lt_nearest(4, [4294967295], list(RING), EMPTY), [0, 0, 16, 257])

    def test_a_font_of_256_letters(self):
        names = [number // 64 for number in range(256)]
        font = scattered(16 * 255, 16, 5) + moved(KEY, -4, 3)
        answer = lt_nearest(4, names, font, list(KEY))
        self.assertEqual(answer[:3], [0, 255, 0])
        self.assertEqual(answer, nearest_by_places(4, names, font, KEY))
        self.assertEqual(lt_nearest(0, [7] * 255 + [8], EMPTY * 255 + FULL, FULL), [0, 255, 0, 256])
        self.assertEqual(lt_nearest(0, [7] * 255 + [8], EMPTY * 255 + FULL, EMPTY), [0, 0, 0, 256])


class WrongInputs(unittest.TestCase):
    def test_a_font_of_no_letter(self):
        for s in [0, 4]:
            self.assertEqual(lt_nearest(s, [], [], []), [-2])
            self.assertEqual(lt_nearest(s, [], [], list(RING)), [-2])

    def test_a_font_of_257_letters(self):
        self.assertEqual(lt_nearest(0, [1] * 257, EMPTY * 257, EMPTY), [-2])
        self.assertEqual(lt_nearest(4, list(range(257)), scattered(16 * 257, 16, 7), list(RING)), [-2])

    def test_moved_too_far(self):
        for s in [5, 6, 255, 256, 65536, 4294967295]:
            self.assertEqual(lt_nearest(s, [1, 2], RING + EMPTY, list(RING)), [-2], s)
            self.assertEqual(lt_nearest(s, [0] * 256, EMPTY * 256, EMPTY), [-2], s)
            self.assertEqual(lt_nearest(s, [], [], []), [-2], s)

    def test_both(self):
        for s in [5, 4294967295]:
            self.assertEqual(lt_nearest(s, [1] * 257, EMPTY * 257, EMPTY), [-2], s)
            self.assertEqual(lt_nearest(s, [], [], list(RING)), [-2], s)


class EachCallAlone(unittest.TestCase):
    def test_what_is_handed_in_is_not_changed(self):
        for s, n in [(0, 3), (4, 3), (5, 3), (1, 257)]:
            names, font, a = Locked(range(n)), Locked(scattered(16 * n, 16, n)), Locked(KEY)
            lt_nearest(s, names, font, a)
            self.assertEqual(list(names), list(range(n)))
            self.assertEqual(list(font), scattered(16 * n, 16, n))
            self.assertEqual(list(a), KEY)

    def test_the_font_may_be_the_letter_itself(self):
        both = Locked(KEY)
        self.assertEqual(lt_nearest(4, [3], both, both), [0, 0, 0, 257])
        self.assertEqual(list(both), KEY)

    def test_one_call_after_the_other(self):
        for _ in range(2):
            first = lt_nearest(1, [1, 2], EMPTY + FULL, FULL)
            self.assertEqual(first, [0, 1, 0, 225])
            first.append(7)
            first[1] = 99
            self.assertEqual(lt_nearest(0, [1, 2], EMPTY + FULL, FULL), [0, 1, 0, 256])
            self.assertEqual(lt_nearest(5, [], [], []), [-2])
            self.assertEqual(lt_nearest(0, [2, 2, 1], FULL + FULL + EMPTY, EMPTY), [0, 2, 0, 256])

    def test_plain_whole_numbers(self):
        answer = lt_nearest(2, [1, 2], RING + KEY, list(HOOK))
        self.assertIs(type(answer), list)
        self.assertEqual({type(number) for number in answer}, {int})
