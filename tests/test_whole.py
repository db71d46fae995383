"""What the document promises over the whole program."""

import ast
import contextlib
import importlib.util
import inspect
import io
import pathlib
import subprocess
import sys
import unittest
from unittest import mock

import likelettersdesk.fonts as fonts
from tests.drawing import EMPTY, FULL, KEY, RING, Locked, bars, full_page, scattered, scattered_page

PARAMETERS = {
    "lt_fit": ["w", "h", "x"],
    "lt_greys": ["w", "h", "x"],
    "lt_crossings": ["a"],
    "lt_apart": ["font", "a"],
    "lt_but": ["font", "c", "a"],
    "lt_nearest": ["s", "names", "font", "a"],
    "lt_common": ["font"],
    "lt_middle": ["font"],
    "lt_groups": ["d", "font"],
    "lt_score": ["w", "start", "x"],
    "lt_vote": ["k", "names", "l", "x"],
    "lt_apart1": ["a", "b"],
}
ONES = [1] * 64
TWOS = [2] * 64

# A call and what it answers alone: of each function one that is refused, if there is one, and some that aren't.
CALLS = [
    ("lt_fit", (2, 2, [1, 2]), [0] + [255] * 8 + [65280] * 8),
    ("lt_fit", (1, 1, [4294967294]), [0] * 17),
    ("lt_fit", (0, 5, []), [-2]),
    ("lt_greys", (2, 2, [1, 2]), [0] + [255, 255, 255, 255, 0, 0, 0, 0] * 4 + [0, 0, 0, 0, 255, 255, 255, 255] * 4),
    ("lt_greys", (1, 1, [1]), [0] + [255] * 64),
    ("lt_greys", (5, 257, []), [-2]),
    ("lt_crossings", ([5] + [0] * 15,), [0, 2] + [0] * 15 + [1, 0, 1] + [0] * 13),
    ("lt_crossings", (FULL,), [0] + [1] * 32),
    ("lt_apart", (RING + FULL, EMPTY), [0, 16, 256]),
    ("lt_apart", (EMPTY, FULL), [0, 256]),
    ("lt_apart", ([], []), [-2]),
    ("lt_but", (RING + FULL, RING, EMPTY), [0, 0, 240]),
    ("lt_but", (FULL, EMPTY, EMPTY), [0, 256]),
    ("lt_but", ([], [], []), [-2]),
    ("lt_nearest", (0, [5, 6], EMPTY + FULL, FULL), [0, 1, 0, 256]),
    ("lt_nearest", (4, [5, 5], RING + FULL, RING), [0, 0, 0, 257]),
    ("lt_nearest", (5, [], [], []), [-2]),
    ("lt_common", (RING + EMPTY + RING,), [0] + RING),
    ("lt_common", (EMPTY,), [0] + EMPTY),
    ("lt_common", ([],), [-2]),
    ("lt_middle", (bars(20, 0, 10),), [0, 2, 20]),
    ("lt_middle", (KEY,), [0, 0, 0]),
    ("lt_middle", ([],), [-2]),
    ("lt_groups", (2, bars(10, 30, 12)), [2, 0, 1, 0]),
    ("lt_groups", (1, bars(10, 30, 12)), [3, 0, 1, 2]),
    ("lt_groups", (2, []), [-2]),
    ("lt_score", (ONES + TWOS, [0, 4294967295], ONES), [1, 64, 127]),
    ("lt_score", ([255] * 64, [60], ONES), [0, 4294967292]),
    ("lt_score", ([], [], []), [-2]),
    ("lt_vote", (3, [7, 8, 8], ONES + TWOS + TWOS, ONES), [0, 8, 2]),
    ("lt_vote", (1, [7, 8, 8], ONES + TWOS + TWOS, ONES), [0, 7, 1]),
    ("lt_vote", (0, [], [], []), [-2]),
    ("lt_apart1", (0, 4294967295), [32]),
    ("lt_apart1", (5, 5), [0]),
]

# A call of each function with lists as long as they can be.
LONG_CALLS = [
    ("lt_fit", (256, 256, scattered_page(256, 256, 1))),
    ("lt_greys", (256, 256, full_page(256, 256))),
    ("lt_crossings", (KEY,)),
    ("lt_apart", (scattered(4096, 16, 1), KEY)),
    ("lt_but", (scattered(4096, 16, 2), RING, KEY)),
    ("lt_nearest", (4, list(range(256)), scattered(4096, 16, 3), KEY)),
    ("lt_common", (scattered(4096, 16, 4),)),
    ("lt_middle", (scattered(4096, 16, 5),)),
    ("lt_groups", (1, bars(*range(256)))),
    ("lt_score", (scattered(16384, 8, 6), scattered(256, 32, 7), scattered(64, 8, 8))),
    ("lt_vote", (256, scattered(256, 32, 9), scattered(16384, 8, 10), scattered(64, 8, 11))),
    ("lt_apart1", (4294967295, 0)),
]


def copied(parts):
    return [list(part) if isinstance(part, list) else part for part in parts]


def locked(parts):
    return [Locked(part) if isinstance(part, list) else part for part in parts]


def answer(name, parts):
    return getattr(fonts, name)(*copied(parts))


def folder():
    return pathlib.Path(fonts.__file__).parent


def trees():
    return [ast.parse(file.read_text(encoding="utf-8")) for file in sorted(folder().glob("*.py"))]


class Interface(unittest.TestCase):
    def test_each_function_is_there_as_it_stands(self):
        for name, parameters in PARAMETERS.items():
            function = getattr(fonts, name)
            self.assertEqual(function.__module__, "likelettersdesk.fonts", name)
            given = inspect.signature(function).parameters.values()
            self.assertEqual([one.name for one in given], parameters, name)
            for one in given:
                self.assertIs(one.default, inspect.Parameter.empty, name)
                self.assertIs(one.kind, inspect.Parameter.POSITIONAL_OR_KEYWORD, name)

    def test_no_call_but_those_told(self):
        self.assertEqual({name for name in vars(fonts) if name.startswith("lt_")}, set(PARAMETERS))

    def test_each_function_stands_among_the_calls(self):
        self.assertEqual({name for name, *_ in CALLS}, set(PARAMETERS))
        self.assertEqual([name for name, _ in LONG_CALLS], list(PARAMETERS))


class EachCallAlone(unittest.TestCase):
    def test_the_first_call(self):
        for name, parts, told in CALLS:
            fresh = importlib.util.module_from_spec(fonts.__spec__)
            fonts.__spec__.loader.exec_module(fresh)
            self.assertEqual(getattr(fresh, name)(*copied(parts)), told, name)

    def test_any_two_calls_one_after_the_other(self):
        for first, first_parts, first_told in CALLS:
            for second, second_parts, second_told in CALLS:
                self.assertEqual(answer(first, first_parts), first_told, (second, first))
                self.assertEqual(answer(second, second_parts), second_told, (first, second))

    def test_the_same_lists_handed_in_again(self):
        for name, parts, told in CALLS:
            same = locked(parts)
            for _ in range(3):
                self.assertEqual(getattr(fonts, name)(*same), told, name)

    def test_what_is_given_back_is_the_callers_own(self):
        for name, parts, told in CALLS:
            same = copied(parts)
            given = getattr(fonts, name)(*same)
            given[0] = 12345
            given.append(6)
            self.assertEqual(same, copied(parts), name)
            self.assertEqual(getattr(fonts, name)(*same), told, name)

    def test_what_is_handed_in_is_not_changed(self):
        for name, parts in [(name, parts) for name, parts, _ in CALLS] + LONG_CALLS:
            same = locked(parts)
            getattr(fonts, name)(*same)
            self.assertEqual(copied(same), copied(parts), name)


class Answers(unittest.TestCase):
    def test_one_flat_list_of_plain_whole_numbers(self):
        for name, parts in [(name, parts) for name, parts, _ in CALLS] + LONG_CALLS:
            given = answer(name, parts)
            self.assertIs(type(given), list, name)
            self.assertEqual({type(number) for number in given}, {int}, name)

    def test_how_many_numbers(self):
        lengths = {"lt_fit": 17, "lt_greys": 65, "lt_crossings": 33, "lt_apart": 257, "lt_but": 257, "lt_nearest": 4,
                   "lt_common": 17, "lt_middle": 3, "lt_groups": 257, "lt_score": 257, "lt_vote": 3, "lt_apart1": 1}
        for name, parts in LONG_CALLS:
            self.assertEqual(len(answer(name, parts)), lengths[name], name)

    def test_nothing_below_0_but_a_refusal(self):
        for name, parts in [(name, parts) for name, parts, _ in CALLS] + LONG_CALLS:
            given = answer(name, parts)
            self.assertTrue(given == [-2] or min(given) >= 0, name)


class Quiet(unittest.TestCase):
    def test_it_prints_and_reads_nothing(self):
        said, complained = io.StringIO(), io.StringIO()
        refuse = mock.Mock(side_effect=AssertionError("something was read"))
        with mock.patch("sys.stdin", None), mock.patch("builtins.open", refuse), mock.patch("builtins.input", refuse):
            with contextlib.redirect_stdout(said), contextlib.redirect_stderr(complained):
                for name, parts in [(name, parts) for name, parts, _ in CALLS] + LONG_CALLS:
                    answer(name, parts)
        self.assertEqual(said.getvalue() + complained.getvalue(), "")

    def test_drawing_it_in_says_nothing_and_draws_in_nothing_else(self):
        code = ("import sys; before = set(sys.modules); import likelettersdesk.fonts; "
                "print(sorted(set(sys.modules) - before))")
        run = subprocess.run([sys.executable, "-B", "-c", code], cwd=folder().parent, capture_output=True, text=True,
                             check=True)
        self.assertEqual(run.stdout, "['likelettersdesk', 'likelettersdesk.fonts']\n")
        self.assertEqual(run.stderr, "")

    def test_it_imports_nothing(self):
        for tree in trees():
            found = [node for node in ast.walk(tree) if isinstance(node, (ast.Import, ast.ImportFrom))]
            self.assertEqual(found, [])

    def test_nothing_stands_there_to_be_kept(self):
        for tree in trees():
            for node in tree.body[1:]:
                self.assertIsInstance(node, ast.FunctionDef)
            for node in ast.walk(tree):
                self.assertNotIsInstance(node, (ast.Global, ast.Nonlocal, ast.ClassDef))
                if isinstance(node, ast.FunctionDef):
                    self.assertEqual(node.args.defaults + node.args.kw_defaults, [], node.name)


class Loops(unittest.TestCase):
    def test_long_lists_need_few_calls_within_one_another(self):
        told = [answer(name, parts) for name, parts in LONG_CALLS]
        given = []
        limit = sys.getrecursionlimit()
        sys.setrecursionlimit(len(inspect.stack()) + 20)
        try:
            for name, parts in LONG_CALLS:
                given.append(answer(name, parts))
        finally:
            sys.setrecursionlimit(limit)
        self.assertEqual(given, told)
