import unittest

from likelettersdesk.fonts import lt_crossings
from tests.drawing import EMPTY, FULL, KEY, Locked, scattered


def runs_by_places(dots):
    """The runs of a text of '#' and '.'."""
    return len([run for run in dots.split(".") if run])


def crossings_by_places(a):
    rows = ["".join("#" if row >> i & 1 else "." for i in range(16)) for row in a]
    columns = ["".join(row[i] for row in rows) for i in range(16)]
    return [0] + [runs_by_places(line) for line in rows + columns]


class OrdinaryLetters(unittest.TestCase):
    def test_a_drawn_letter(self):
        rows = [0, 1, 2, 2, 2, 5, 4, 1, 0, 2, 2, 2, 2, 1, 8, 8]
        columns = [4, 4, 5, 3, 4, 3, 4, 2, 3, 2, 3, 2, 3, 3, 4, 3]
        self.assertEqual(lt_crossings(KEY), [0] + rows + columns)

    def test_rows_stand_ahead_of_columns(self):
        # Row 2 has three runs, each in a column of its own.
        a = [0, 0, 0b0000010010000001] + [0] * 13
        columns = [1, 0, 0, 0, 0, 0, 0, 1, 0, 0, 1, 0, 0, 0, 0, 0]
        self.assertEqual(lt_crossings(a), [0] + [0, 0, 3] + [0] * 13 + columns)
        # Column 3 has two runs, of five rows and of one.
        a = [0, 8, 8, 8, 8, 8, 0, 0, 8] + [0] * 7
        rows = [0, 1, 1, 1, 1, 1, 0, 0, 1] + [0] * 7
        self.assertEqual(lt_crossings(a), [0] + rows + [0, 0, 0, 2] + [0] * 12)

    def test_a_single_dot_anywhere(self):
        for j in range(16):
            for i in range(16):
                a = [0] * j + [1 << i] + [0] * (15 - j)
                rows = [1 if r == j else 0 for r in range(16)]
                columns = [1 if c == i else 0 for c in range(16)]
                self.assertEqual(lt_crossings(a), [0] + rows + columns, (i, j))

    def test_each_word_there_is(self):
        for first in range(0, 65536, 16):
            a = list(range(first, first + 16))
            self.assertEqual(lt_crossings(a), crossings_by_places(a), first)

    def test_many_letters_place_by_place(self):
        for seed in range(100):
            a = scattered(16, 16, seed)
            self.assertEqual(lt_crossings(a), crossings_by_places(a), seed)


class Edges(unittest.TestCase):
    def test_an_empty_and_a_full_letter(self):
        self.assertEqual(lt_crossings(EMPTY), [0] * 33)
        self.assertEqual(lt_crossings(FULL), [0] + [1] * 32)

    def test_every_other_place(self):
        self.assertEqual(lt_crossings([0x5555, 0xAAAA] * 8), [0] + [8] * 32)
        self.assertEqual(lt_crossings([0x5555] * 16), [0] + [8] * 16 + [1, 0] * 8)
        self.assertEqual(lt_crossings([0xAAAA] * 16), [0] + [8] * 16 + [0, 1] * 8)
        self.assertEqual(lt_crossings([65535, 0] * 8), [0] + [1, 0] * 8 + [8] * 16)
        self.assertEqual(lt_crossings([0, 65535] * 8), [0] + [0, 1] * 8 + [8] * 16)

    def test_runs_at_the_first_and_at_the_last(self):
        self.assertEqual(lt_crossings([1] * 16), [0] + [1] * 16 + [1] + [0] * 15)
        self.assertEqual(lt_crossings([32768] * 16), [0] + [1] * 16 + [0] * 15 + [1])
        self.assertEqual(lt_crossings([32769] * 16), [0] + [2] * 16 + [1] + [0] * 14 + [1])
        self.assertEqual(lt_crossings([65535] + [0] * 15), [0] + [1] + [0] * 15 + [1] * 16)
        self.assertEqual(lt_crossings([0] * 15 + [65535]), [0] + [0] * 15 + [1] + [1] * 16)
        self.assertEqual(lt_crossings([65535] + [0] * 14 + [65535]), [0] + [1] + [0] * 14 + [1] + [2] * 16)


class EachCallAlone(unittest.TestCase):
    def test_what_is_handed_in_is_not_changed(self):
        a = Locked(KEY)
        lt_crossings(a)
        self.assertEqual(list(a), KEY)

    def test_one_call_after_the_other(self):
        for _ in range(2):
            first = lt_crossings(FULL)
            self.assertEqual(first, [0] + [1] * 32)
            first.append(7)
            first[1] = 99
            self.assertEqual(lt_crossings(EMPTY), [0] * 33)

    def test_plain_whole_numbers(self):
        answer = lt_crossings(list(KEY))
        self.assertIs(type(answer), list)
        self.assertEqual({type(number) for number in answer}, {int})
