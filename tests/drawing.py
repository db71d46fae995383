"""Pages and letters for the tests: made from drawings, and read place by place."""


class Locked(list):
    """A list that refuses every change, so that even a change taken back is found."""

    def refuse(self, *args, **kwargs):
        raise AssertionError("what was handed in was changed")

    __setitem__ = __delitem__ = __iadd__ = __imul__ = refuse
    append = extend = insert = pop = remove = clear = sort = reverse = refuse


def page(rows):
    """The words of a page drawn as texts, one a row, '#' being a dot."""
    words = []
    for row in rows:
        for start in range(0, len(row), 32):
            part = row[start:start + 32]
            words.append(sum(1 << i for i, sign in enumerate(part) if sign == "#"))
    return words


def letter(rows):
    """The sixteen words of a letter drawn as sixteen texts of sixteen signs."""
    assert [len(row) for row in rows] == [16] * 16
    return page(rows)


EMPTY = [0] * 16
FULL = [65535] * 16
RING = letter(["................"] * 3 + [
    ".....####.......",
    "....#....#......",
    "...#......#.....",
    "...#......#.....",
    "....#....#......",
    ".....####.......",
] + ["................"] * 7)
KEY = letter([
    "................",
    "..####..........",
    ".#....#.........",
    "#......#........",
    "#......#########",
    "#......#..#.#.#.",
    ".#....#.....#.#.",
    "..####..........",
    "................",
    "#..............#",
    ".#............#.",
    "..#..........#..",
    "...#........#...",
    "################",
    ".#.#.#.#.#.#.#.#",
    "#.#.#.#.#.#.#.#.",
])


def full_page(w, h):
    return page(["#" * w] * h)


def scattered(count, bits, seed):
    """So many words of so many bits, without a pattern, and the same each time."""
    words = []
    state = seed
    for _ in range(count):
        state = (state * 6364136223846793005 + 1442695040888963407) % 2 ** 64
        words.append(state >> (64 - bits))
    return words


def scattered_page(w, h, seed):
    return scattered(h * ((w + 31) // 32), 32, seed)


def has_dot(w, x, c, r):
    return x[r * ((w + 31) // 32) + c // 32] >> (c % 32) & 1


def places(w, h, k, i, j):
    """The (column, row) places that go into column i, row j of k by k, told as the document tells them."""
    columns = [c for c in range(w) if i * w // k <= c < (i + 1) * w // k] or [i * w // k]
    rows = [r for r in range(h) if j * h // k <= r < (j + 1) * h // k] or [j * h // k]
    return [(c, r) for r in rows for c in columns]


def dots_of(a):
    """The (column, row) places where a letter has a dot."""
    return {(i, j) for j in range(16) for i in range(16) if a[j] >> i & 1}


def letter_with(dots):
    """The letter that has dots at these (column, row) places alone."""
    return [sum(1 << i for i in range(16) if (i, j) in dots) for j in range(16)]


def cut(font):
    """The letters of a font, one by one."""
    return [font[start:start + 16] for start in range(0, len(font), 16)]


def bar(length):
    """A letter with so many dots, row by row: two bars are as far apart as their lengths."""
    return letter_with({(number % 16, number // 16) for number in range(length)})


def bars(*lengths):
    return [word for length in lengths for word in bar(length)]
