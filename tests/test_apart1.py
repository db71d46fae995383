import unittest

from likelettersdesk.fonts import lt_apart1
from tests.drawing import scattered

GREATEST = 4294967295


def bits(number):
    """The word's 32 bits as text, bit 0 last."""
    return f"{number:032b}"


class OrdinaryNumbers(unittest.TestCase):
    def test_a_few_numbers(self):
        self.assertEqual(lt_apart1(0b1100, 0b1010), [2])
        self.assertEqual(lt_apart1(0b1010, 0b1100), [2])
        self.assertEqual(lt_apart1(7, 8), [4])
        self.assertEqual(lt_apart1(0, 255), [8])
        self.assertEqual(lt_apart1(65535, 65536), [17])
        self.assertEqual(lt_apart1(0xAAAAAAAA, 0x55555555), [32])
        self.assertEqual(lt_apart1(0xFF00FF00, 0xFFFF0000), [16])

    def test_many_numbers_bit_by_bit(self):
        numbers = scattered(200, 32, 1) + scattered(20, 16, 2) + [0, 1, 2 ** 31, GREATEST]
        for a, b in zip(numbers, numbers[7:] + numbers[:7]):
            differ = sum(one != other for one, other in zip(bits(a), bits(b)))
            self.assertEqual(lt_apart1(a, b), [differ], (a, b))
            self.assertEqual(lt_apart1(b, a), [differ], (b, a))


class Edges(unittest.TestCase):
    def test_alike(self):
        for number in [0, 1, 65535, 65536, 2147483647, 2147483648, GREATEST] + scattered(20, 32, 3):
            self.assertEqual(lt_apart1(number, number), [0], number)

    def test_all_bits_differ(self):
        self.assertEqual(lt_apart1(0, GREATEST), [32])
        self.assertEqual(lt_apart1(GREATEST, 0), [32])
        for number in scattered(20, 32, 4):
            self.assertEqual(lt_apart1(number, GREATEST - number), [32], number)

    def test_all_bits_but_one_differ(self):
        for i in range(32):
            self.assertEqual(lt_apart1(GREATEST - (1 << i), 0), [31], i)
            self.assertEqual(lt_apart1(0, GREATEST - (1 << i)), [31], i)

    def test_a_single_bit_anywhere(self):
        for i in range(32):
            for number in [0, GREATEST] + scattered(5, 32, i):
                self.assertEqual(lt_apart1(number, number ^ (1 << i)), [1], (i, number))
                self.assertEqual(lt_apart1(number ^ (1 << i), number), [1], (i, number))

    def test_the_lowest_and_the_highest_bit(self):
        self.assertEqual(lt_apart1(0, 1), [1])
        self.assertEqual(lt_apart1(GREATEST, GREATEST - 1), [1])
        self.assertEqual(lt_apart1(0, 2147483648), [1])
        self.assertEqual(lt_apart1(2147483647, GREATEST), [1])
        self.assertEqual(lt_apart1(2147483647, 2147483648), [32])
        self.assertEqual(lt_apart1(1, 2147483648), [2])


class EachCallAlone(unittest.TestCase):
    def test_one_call_after_the_other(self):
        for _ in range(2):
            first = lt_apart1(0, 15)
            self.assertEqual(first, [4])
            first.append(7)
            first[0] = 99
            self.assertEqual(lt_apart1(0, 15), [4])
            self.assertEqual(lt_apart1(15, 14), [1])
            self.assertEqual(lt_apart1(9, 9), [0])

    def test_plain_whole_numbers(self):
        for a, b in [(0, 0), (1, 0), (0, GREATEST)]:
            answer = lt_apart1(a, b)
            self.assertIs(type(answer), list)
            self.assertEqual([type(number) for number in answer], [int])
