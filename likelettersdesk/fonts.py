"""The calls on letters, fonts and pages.

Each call gives back one list: the number that is answered, then what else is answered.
A refusal is -2 alone.
"""


def is_size(number):
    """Pages have from 1 to 256 columns and rows, fonts from 1 to 256 letters."""
    return 1 <= number <= 256


def count_ones(number):
    """How many bits of the number are 1."""
    ones = 0
    while number > 0:
        # This clears the lowest bit that is 1, so only such bits cost a turn.
        number = number & (number - 1)
        ones += 1
    return ones


def word_of(bits):
    """The word whose bit i is bits[i]."""
    word = 0
    for i, bit in enumerate(bits):
        word = word | (bit << i)
    return word


def spans(size, k):
    """For each of k parts of size columns (or rows): the first that goes there, and the one behind the last."""
    parts = []
    for i in range(k):
        first = i * size // k
        # With fewer columns than parts both quotients can be the same, but one column goes there at least.
        parts.append((first, max((i + 1) * size // k, first + 1)))
    return parts


def page_rows(w, h, x):
    """Each row of the page as one number, column c being bit c."""
    length = (w + 31) // 32
    rows = []
    for j in range(h):
        row = 0
        for i in range(length):
            row = row | (x[j * length + i] << (32 * i))
        rows.append(row)
    return rows


def count_box(rows, left, right):
    """How many dots these rows have from column left up to ahead of right, and how many places."""
    mask = (1 << (right - left)) - 1
    dots = 0
    for row in rows:
        dots += count_ones((row >> left) & mask)
    return (dots, len(rows) * (right - left))


def count_boxes(w, h, x, k):
    """The page as k rows of k boxes: of each box how many dots and how many places go there."""
    rows = page_rows(w, h, x)
    columns = spans(w, k)
    boxes = []
    for top, bottom in spans(h, k):
        boxes.append([count_box(rows[top:bottom], left, right) for left, right in columns])
    return boxes


def half_at_least(part, whole):
    """1 if the part is half of the whole at least, else 0."""
    return 1 if 2 * part >= whole else 0


def lt_fit(w, h, x):
    """The page as a letter: 0 and sixteen words, or -2."""
    if not is_size(w) or not is_size(h):
        return [-2]
    answer = [0]
    for boxes in count_boxes(w, h, x, 16):
        answer.append(word_of([half_at_least(dots, places) for dots, places in boxes]))
    return answer


def lt_greys(w, h, x):
    """The page as eight by eight greys, row by row: 0 and 64 bytes, or -2."""
    if not is_size(w) or not is_size(h):
        return [-2]
    answer = [0]
    for boxes in count_boxes(w, h, x, 8):
        answer.extend([(510 * dots + places) // (2 * places) for dots, places in boxes])
    return answer


def count_runs(word):
    """How many runs of bits that are 1 the word has."""
    # A run begins where a bit is 1 and the one ahead of it is not.
    return count_ones(word & ~(word << 1))


def column_words(a):
    """Each column of the letter as a word, row j being bit j."""
    return [word_of([(row >> i) & 1 for row in a]) for i in range(16)]


def lt_crossings(a):
    """Of each row of the letter, then of each column, how many runs of dots: 0 and 32 numbers."""
    return [0] + [count_runs(word) for word in a + column_words(a)]


def parts_of(numbers, length):
    """The flat list as lists of so many numbers each, in turn."""
    return [numbers[start:start + length] for start in range(0, len(numbers), length)]


def letters_of(font):
    """The letters of a font, each a list of sixteen words."""
    return parts_of(font, 16)


def how_far(a, b):
    """At how many places just one of two letters has a dot."""
    return sum([count_ones(row ^ other) for row, other in zip(a, b)])


def lt_apart(font, a):
    """How far each letter of the font is from a: 0 and n numbers, or -2."""
    letters = letters_of(font)
    if not is_size(len(letters)):
        return [-2]
    return [0] + [how_far(letter, a) for letter in letters]


def without(a, c):
    """The letter a without its dots where c has one."""
    return [row & ~hidden for row, hidden in zip(a, c)]


def lt_but(font, c, a):
    """How far each letter of the font is from a where c has no dot: 0 and n numbers, or -2."""
    letters = letters_of(font)
    if not is_size(len(letters)):
        return [-2]
    seen = without(a, c)
    return [0] + [how_far(without(letter, c), seen) for letter in letters]


def move_row(row, dx):
    """The row moved by dx columns, dots that leave being lost."""
    return (row << dx) & 65535 if dx >= 0 else row >> -dx


def move(a, dx, dy):
    """The letter moved by dx columns and dy rows, white coming in."""
    rows = [move_row(row, dx) for row in a]
    white = [0] * abs(dy)
    # White comes in from above if dy is above 0, else from below; the rows at the other end leave.
    return (white + rows)[:16] if dy >= 0 else (rows + white)[-16:]


def moves(a, s):
    """The letter moved by all dx, dy from -s to s."""
    moved = []
    for dy in range(-s, s + 1):
        moved.extend([move(a, dx, dy) for dx in range(-s, s + 1)])
    return moved


def lt_nearest(s, names, font, a):
    """The letter nearest to a, which is moved by up to s: 0, its number, how far, how far another name; or -2."""
    letters = letters_of(font)
    if s > 4 or not is_size(len(letters)):
        return [-2]
    moved = moves(a, s)
    distances = [min([how_far(letter, one) for one in moved]) for letter in letters]
    least = min(distances)
    nearest = distances.index(least)
    others = [distance for distance, name in zip(distances, names) if name != names[nearest]]
    return [0, nearest, least, min(others, default=257)]


def dot_counts(letters):
    """Of each row, column by column, how many of the letters have a dot there."""
    counts = []
    for j in range(16):
        rows = [letter[j] for letter in letters]
        counts.append([sum([(row >> i) & 1 for row in rows]) for i in range(16)])
    return counts


def lt_common(font):
    """The letter with a dot where half of the font's letters at least have one: 0 and sixteen words, or -2."""
    letters = letters_of(font)
    if not is_size(len(letters)):
        return [-2]
    answer = [0]
    for counts in dot_counts(letters):
        answer.append(word_of([half_at_least(dots, len(letters)) for dots in counts]))
    return answer


def how_far_together(letter, counts, n):
    """How far the letter is from n letters, together, of which so many have a dot at each place."""
    far = 0
    for row, dots_of_row in zip(letter, counts):
        for i, dots in enumerate(dots_of_row):
            # A dot is alone against those letters that have none there, a white place against those that have one.
            far += n - dots if (row >> i) & 1 else dots
    return far


def lt_middle(font):
    """The letter least far from all of the font's together: 0, its number, how far together; or -2."""
    letters = letters_of(font)
    if not is_size(len(letters)):
        return [-2]
    counts = dot_counts(letters)
    distances = [how_far_together(letter, counts, len(letters)) for letter in letters]
    least = min(distances)
    return [0, distances.index(least), least]


def mark_group(d, letters, least, first):
    """Tells first as the least number of each letter that one comes to from there, by steps no farther than d."""
    least[first] = first
    reached = [first]
    while len(reached) > 0:
        letter = letters[reached.pop()]
        for number, other in enumerate(letters):
            if least[number] is None and how_far(letter, other) <= d:
                least[number] = first
                reached.append(number)


def lt_groups(d, font):
    """The groups of letters that one comes to from each other: how many, then of each letter the least; or -2."""
    letters = letters_of(font)
    if not is_size(len(letters)):
        return [-2]
    least = [None] * len(letters)
    groups = 0
    for number in range(len(letters)):
        # Each step leads back as well, so a letter that no lesser one has led to is the least of its group.
        if least[number] is None:
            mark_group(d, letters, least, number)
            groups += 1
    return [groups] + least


def with_sign(number, size):
    """The number as one with a sign: from half the size on it is less the size."""
    return number - size if 2 * number >= size else number


def score(weights, begin, x):
    """The sum of x's numbers, each times its weight, and the word to begin with."""
    products = [with_sign(weight, 256) * number for weight, number in zip(weights, x)]
    return sum(products) + with_sign(begin, 2 ** 32)


def lt_score(w, start, x):
    """The sum of each row of weights: the greatest one's number, then all as words modulo 2^32; or -2."""
    if not is_size(len(start)):
        return [-2]
    scores = [score(weights, begin, x) for weights, begin in zip(parts_of(w, 64), start)]
    return [scores.index(max(scores))] + [number % 2 ** 32 for number in scores]


def squares(row, x):
    """The sum of the squares of the differences of two rows of numbers."""
    return sum([(one - other) ** 2 for one, other in zip(row, x)])


def nearest_numbers(k, rows, x):
    """The numbers of those k rows that are nearest to x, nearest first, of as near ones the lesser number."""
    pairs = sorted([(squares(row, x), number) for number, row in enumerate(rows)])
    return [number for far, number in pairs[:k]]


def lt_vote(k, names, l, x):
    """The name that most of the k rows nearest to x have: 0, the name, how many have it; or -2."""
    if not is_size(len(names)) or not 1 <= k <= len(names):
        return [-2]
    votes = [names[number] for number in nearest_numbers(k, parts_of(l, 64), x)]
    counts = [votes.count(name) for name in votes]
    most = max(counts)
    return [0, votes[counts.index(most)], most]


def lt_apart1(a, b):
    """In how many bits two words differ: one number alone."""
    return [count_ones(a ^ b)]
