import unittest

from likelettersdesk.fonts import lt_greys
from tests.drawing import Locked, full_page, has_dot, page, places, scattered_page


def greys_by_places(w, h, x):
    answer = [0]
    for j in range(8):
        for i in range(8):
            there = places(w, h, 8, i, j)
            dots = sum(has_dot(w, x, c, r) for c, r in there)
            answer.append((510 * dots + len(there)) // (2 * len(there)))
    return answer


def box_page(drawing):
    """A page of eight by eight such boxes."""
    return page([row * 8 for row in drawing] * 8)


class OrdinaryPages(unittest.TestCase):
    def test_row_by_row(self):
        rows = [".#......", "#......."] + ["........"] * 5 + [".......#"]
        expected = [0] * 64
        expected[1] = expected[8] = expected[63] = 255
        self.assertEqual(lt_greys(8, 8, page(rows)), [0] + expected)

    def test_an_empty_and_a_full_page(self):
        for w, h in [(8, 8), (16, 16), (33, 70), (100, 7), (256, 256)]:
            self.assertEqual(lt_greys(w, h, page(["." * w] * h)), [0] * 65, (w, h))
            self.assertEqual(lt_greys(w, h, full_page(w, h)), [0] + [255] * 64, (w, h))

    def test_wider_than_one_word_and_than_two(self):
        # Of 40 columns five go into each: 30 to 34 into column 6. Of 72 nine: 63 to 71 into column 7.
        row = "." * 31 + "###" + "." * 6
        self.assertEqual(lt_greys(40, 1, page([row])), [0] + [0, 0, 0, 0, 0, 0, 153, 0] * 8)
        row = "." * 63 + "##......."
        self.assertEqual(lt_greys(72, 1, page([row])), [0] + [0, 0, 0, 0, 0, 0, 0, 57] * 8)

    def test_parts_that_are_not_of_one_size(self):
        # Of 10 columns (rows) there go two into 3 and 7, one into the others.
        row = "....#....#"
        self.assertEqual(lt_greys(10, 8, page([row] * 8)), [0] + [0, 0, 0, 128, 0, 0, 0, 128] * 8)
        rows = ["........"] * 10
        rows[3] = rows[5] = "########"
        expected = [0] * 24 + [128] * 8 + [255] * 8 + [0] * 24
        self.assertEqual(lt_greys(8, 10, page(rows)), [0] + expected)

    def test_many_pages_place_by_place(self):
        sizes = [(1, 256), (256, 1), (3, 5), (7, 9), (9, 7), (15, 17), (31, 33), (33, 31), (40, 70), (64, 64),
                 (65, 48), (97, 100), (129, 23), (250, 19), (255, 255), (256, 256)]
        for seed, (w, h) in enumerate(sizes):
            x = scattered_page(w, h, seed)
            self.assertEqual(lt_greys(w, h, x), greys_by_places(w, h, x), (w, h))


class Edges(unittest.TestCase):
    def test_a_single_place_goes_everywhere(self):
        self.assertEqual(lt_greys(1, 1, [1]), [0] + [255] * 64)
        self.assertEqual(lt_greys(1, 1, [0]), [0] * 65)

    def test_smaller_than_eight(self):
        # Column 0 of 3 goes into 0 to 2, column 1 into 3 to 5, column 2 into 6 and 7.
        self.assertEqual(lt_greys(3, 1, page(["#.."])), [0] + [255, 255, 255, 0, 0, 0, 0, 0] * 8)
        self.assertEqual(lt_greys(3, 1, page([".#."])), [0] + [0, 0, 0, 255, 255, 255, 0, 0] * 8)
        self.assertEqual(lt_greys(3, 1, page(["..#"])), [0] + [0, 0, 0, 0, 0, 0, 255, 255] * 8)
        self.assertEqual(lt_greys(1, 3, page([".", "#", "."])), [0] + [0] * 24 + [255] * 24 + [0] * 16)

    def test_seven_of_eight(self):
        # The first column goes into 0 and 1, each other one into the next.
        for c in range(7):
            row = "." * c + "#" + "." * (6 - c)
            expected = [255 if i == c + 1 or i == c == 0 else 0 for i in range(8)]
            self.assertEqual(lt_greys(7, 1, page([row])), [0] + expected * 8, c)

    def test_256_on_one_side(self):
        row = "#" * 16 + "." * 224 + "#" * 16
        self.assertEqual(lt_greys(256, 1, page([row])), [0] + [128, 0, 0, 0, 0, 0, 0, 128] * 8)
        rows = ["#"] * 8 + ["."] * 247 + ["#"]
        self.assertEqual(lt_greys(1, 256, page(rows)), [0] + [64] * 8 + [0] * 48 + [8] * 8)

    def test_rounding(self):
        self.assertEqual(lt_greys(16, 8, box_page(["#."])), [0] + [128] * 64)
        self.assertEqual(lt_greys(16, 16, box_page(["#.", ".."])), [0] + [64] * 64)
        self.assertEqual(lt_greys(16, 16, box_page(["##", ".."])), [0] + [128] * 64)
        self.assertEqual(lt_greys(16, 16, box_page(["##", ".#"])), [0] + [191] * 64)
        self.assertEqual(lt_greys(24, 16, box_page(["#..", "..."])), [0] + [43] * 64)
        self.assertEqual(lt_greys(24, 24, box_page(["#..", "...", "..."])), [0] + [28] * 64)
        self.assertEqual(lt_greys(24, 24, box_page(["###", "##.", "..."])), [0] + [142] * 64)
        self.assertEqual(lt_greys(24, 24, box_page(["###", "###", "##."])), [0] + [227] * 64)

    def test_rounding_of_each_count_in_the_greatest_box(self):
        # 1024 places go into each of 8 by 8: the greys change where 510 dots + 1024 passes 2048 times a number.
        for dots, grey in [(0, 0), (2, 0), (3, 1), (511, 127), (512, 128), (1021, 254), (1022, 255), (1024, 255)]:
            drawing = [("#" * dots + "." * (1024 - dots))[start:start + 32] for start in range(0, 1024, 32)]
            self.assertEqual(lt_greys(256, 256, box_page(drawing)), [0] + [grey] * 64, dots)

    def test_bits_behind_the_last_column_do_not_matter(self):
        for w in (1, 3, 7, 8, 9, 31, 33, 40, 63, 65, 100, 255):
            h = 10
            behind = 2 ** 32 - 2 ** (w % 32)
            length = (w + 31) // 32
            x = page(["#." * (w // 2) + "#" * (w % 2)] * h)
            noisy = [word + behind if i % length == length - 1 and w % 32 else word for i, word in enumerate(x)]
            self.assertEqual(lt_greys(w, h, noisy), greys_by_places(w, h, x), w)
            clear = [behind if i % length == length - 1 and w % 32 else 0 for i in range(h * length)]
            self.assertEqual(lt_greys(w, h, clear), [0] * 65, w)


class WrongInputs(unittest.TestCase):
    def test_out_of_range_with_an_empty_list(self):
        for w, h in [(0, 1), (1, 0), (0, 0), (257, 1), (1, 257), (257, 257), (4294967295, 1), (1, 4294967295),
                     (0, 257), (4294967295, 4294967295), (0, 4294967295)]:
            self.assertEqual(lt_greys(w, h, []), [-2], (w, h))

    def test_out_of_range_with_a_list_as_long_as_told(self):
        for w, h in [(257, 1), (257, 256), (1, 257), (256, 257), (257, 257)]:
            self.assertEqual(lt_greys(w, h, full_page(w, h)), [-2], (w, h))


class EachCallAlone(unittest.TestCase):
    def test_what_is_handed_in_is_not_changed(self):
        x = Locked(scattered_page(70, 50, 1))
        before = list(x)
        lt_greys(70, 50, x)
        self.assertEqual(list(x), before)
        x = Locked(full_page(257, 2))
        lt_greys(257, 2, x)
        self.assertEqual(list(x), full_page(257, 2))

    def test_one_call_after_the_other(self):
        for _ in range(2):
            first = lt_greys(3, 1, [1])
            self.assertEqual(first, [0] + [255, 255, 255, 0, 0, 0, 0, 0] * 8)
            first.append(7)
            first[1] = 99
            self.assertEqual(lt_greys(0, 1, []), [-2])
            self.assertEqual(lt_greys(1, 1, [1]), [0] + [255] * 64)
            self.assertEqual(lt_greys(1, 1, [0]), [0] * 65)

    def test_plain_whole_numbers(self):
        answer = lt_greys(2, 2, [1, 2])
        self.assertIs(type(answer), list)
        self.assertEqual({type(number) for number in answer}, {int})
