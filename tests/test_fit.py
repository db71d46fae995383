import unittest

from likelettersdesk.fonts import lt_fit
from tests.drawing import KEY, Locked, full_page, has_dot, page, places, scattered_page


def fit_by_places(w, h, x):
    answer = [0]
    for j in range(16):
        word = 0
        for i in range(16):
            there = places(w, h, 16, i, j)
            if sum(has_dot(w, x, c, r) for c, r in there) * 2 >= len(there):
                word += 2 ** i
        answer.append(word)
    return answer


class OrdinaryPages(unittest.TestCase):
    def test_a_page_of_sixteen_by_sixteen_is_the_letter(self):
        self.assertEqual(lt_fit(16, 16, list(KEY)), [0] + KEY)

    def test_the_first_row_and_column_come_first(self):
        self.assertEqual(lt_fit(16, 16, [2] + [0] * 15), [0, 2] + [0] * 15)
        self.assertEqual(lt_fit(16, 16, [0] * 15 + [32768]), [0] + [0] * 15 + [32768])

    def test_an_empty_and_a_full_page(self):
        for w, h in [(16, 16), (32, 32), (100, 7), (256, 256)]:
            empty = page(["." * w] * h)
            self.assertEqual(lt_fit(w, h, empty), [0] * 17, (w, h))
            self.assertEqual(lt_fit(w, h, full_page(w, h)), [0] + [65535] * 16, (w, h))

    def test_wider_than_one_word_and_than_two(self):
        # Of 48 columns three go into each; of 80 five, those of column 6 being 30 to 34, across two words.
        row = "###" + "." * 27 + "##." + "." * 12 + "#.#"
        self.assertEqual(lt_fit(48, 16, page([row] * 16)), [0] + [1 + 1024 + 32768] * 16)
        row = "." * 30 + "#.##." + "." * 29 + "#" + "." * 15
        self.assertEqual(lt_fit(80, 16, page([row] * 16)), [0] + [64] * 16)
        row = "." * 62 + "#..##" + "." * 13
        # Columns 60 to 64 (12) have one dot, 65 to 69 (13) two of five.
        self.assertEqual(lt_fit(80, 16, page([row] * 16)), [0] + [0] * 16)

    def test_parts_that_are_not_of_one_size(self):
        # Of 20 columns there go into columns 3, 7, 11 and 15 two, into the others one.
        for c, i in [(0, 0), (2, 2), (3, 3), (4, 3), (5, 4), (9, 7), (10, 8), (14, 11), (15, 12), (18, 15), (19, 15)]:
            row = "." * c + "#" + "." * (19 - c)
            self.assertEqual(lt_fit(20, 16, page([row] * 16)), [0] + [2 ** i] * 16, c)
            rows = ["." * 16] * 20
            rows[c] = "#" * 16
            self.assertEqual(lt_fit(16, 20, page(rows)), [0] + [65535 if j == i else 0 for j in range(16)], c)

    def test_many_pages_place_by_place(self):
        sizes = [(1, 256), (256, 1), (5, 9), (15, 17), (17, 15), (31, 33), (33, 31), (40, 70), (64, 64),
                 (65, 48), (97, 100), (129, 23), (250, 19), (255, 255), (256, 256)]
        for seed, (w, h) in enumerate(sizes):
            x = scattered_page(w, h, seed)
            self.assertEqual(lt_fit(w, h, x), fit_by_places(w, h, x), (w, h))


class Edges(unittest.TestCase):
    def test_a_single_place_goes_everywhere(self):
        self.assertEqual(lt_fit(1, 1, [1]), [0] + [65535] * 16)
        self.assertEqual(lt_fit(1, 1, [0]), [0] * 17)

    def test_smaller_than_sixteen(self):
        # Column 0 of 3 goes into 0 to 5, column 1 into 6 to 10, column 2 into 11 to 15.
        self.assertEqual(lt_fit(3, 1, page(["#.."])), [0] + [0b0000000000111111] * 16)
        self.assertEqual(lt_fit(3, 1, page([".#."])), [0] + [0b0000011111000000] * 16)
        self.assertEqual(lt_fit(3, 1, page(["..#"])), [0] + [0b1111100000000000] * 16)
        self.assertEqual(lt_fit(1, 3, page([".", "#", "."])), [0] + [0] * 6 + [65535] * 5 + [0] * 5)
        self.assertEqual(lt_fit(2, 2, page(["#.", ".#"])), [0] + [255] * 8 + [65280] * 8)

    def test_fifteen_of_sixteen(self):
        # The first column goes into 0 and 1, each other one into the next.
        for c in range(15):
            row = "." * c + "#" + "." * (14 - c)
            expected = 3 if c == 0 else 2 ** (c + 1)
            self.assertEqual(lt_fit(15, 1, page([row])), [0] + [expected] * 16, c)

    def test_one_column_and_256_rows(self):
        rows = ["#" if r < 8 or r >= 249 else "." for r in range(256)]
        self.assertEqual(lt_fit(1, 256, page(rows)), [0, 65535] + [0] * 15)
        rows = ["#" if r < 7 or r >= 248 else "." for r in range(256)]
        self.assertEqual(lt_fit(1, 256, page(rows)), [0] + [0] * 15 + [65535])

    def test_256_columns_and_one_row(self):
        row = "#" * 8 + "." * 232 + "." * 9 + "#" * 7
        self.assertEqual(lt_fit(256, 1, page([row])), [0] + [1] * 16)

    def test_just_half_is_a_dot(self):
        self.assertEqual(lt_fit(32, 32, page(["#." * 16, "." * 32] * 16)), [0] * 17)
        self.assertEqual(lt_fit(32, 32, page(["#." * 16, ".#" * 16] * 16)), [0] + [65535] * 16)
        self.assertEqual(lt_fit(32, 32, page(["##" * 16, ".." * 16] * 16)), [0] + [65535] * 16)

    def test_half_of_an_odd_number_of_places(self):
        # Nine places: four are less than half, five are more.
        four = ["#.#" * 16, "..." * 16, "#.#" * 16]
        five = ["#.#" * 16, ".#." * 16, "#.#" * 16]
        self.assertEqual(lt_fit(48, 48, page(four * 16)), [0] * 17)
        self.assertEqual(lt_fit(48, 48, page(five * 16)), [0] + [65535] * 16)

    def test_bits_behind_the_last_column_do_not_matter(self):
        for w in (1, 3, 15, 16, 17, 31, 33, 40, 63, 65, 100, 255):
            h = 18
            behind = 2 ** 32 - 2 ** (w % 32)
            length = (w + 31) // 32
            x = page(["#." * (w // 2) + "#" * (w % 2)] * h)
            noisy = [word + behind if i % length == length - 1 and w % 32 else word for i, word in enumerate(x)]
            self.assertEqual(lt_fit(w, h, noisy), lt_fit(w, h, x), w)
            self.assertEqual(lt_fit(w, h, noisy), fit_by_places(w, h, x), w)
            clear = [behind if i % length == length - 1 and w % 32 else 0 for i in range(h * length)]
            self.assertEqual(lt_fit(w, h, clear), [0] * 17, w)


class WrongInputs(unittest.TestCase):
    def test_out_of_range_with_an_empty_list(self):
        for w, h in [(0, 1), (1, 0), (0, 0), (257, 1), (1, 257), (257, 257), (4294967295, 1), (1, 4294967295),
                     (0, 257), (4294967295, 4294967295), (0, 4294967295)]:
            self.assertEqual(lt_fit(w, h, []), [-2], (w, h))

    def test_out_of_range_with_a_list_as_long_as_told(self):
        for w, h in [(257, 1), (257, 256), (1, 257), (256, 257), (257, 257)]:
            self.assertEqual(lt_fit(w, h, full_page(w, h)), [-2], (w, h))


class EachCallAlone(unittest.TestCase):
    def test_what_is_handed_in_is_not_changed(self):
        x = Locked(scattered_page(70, 50, 1))
        before = list(x)
        lt_fit(70, 50, x)
        self.assertEqual(list(x), before)
        x = Locked(full_page(257, 2))
        lt_fit(257, 2, x)
        self.assertEqual(list(x), full_page(257, 2))

    def test_one_call_after_the_other(self):
        for _ in range(2):
            first = lt_fit(16, 16, KEY)
            self.assertEqual(first, [0] + KEY)
            first.append(7)
            first[1] = 99
            self.assertEqual(lt_fit(0, 1, []), [-2])
            self.assertEqual(lt_fit(1, 1, [1]), [0] + [65535] * 16)
            self.assertEqual(lt_fit(1, 1, [0]), [0] * 17)

    def test_plain_whole_numbers(self):
        answer = lt_fit(2, 2, [1, 2])
        self.assertIs(type(answer), list)
        self.assertEqual({type(number) for number in answer}, {int})
