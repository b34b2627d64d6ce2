"""What several tests need: sets and rows as the document's words tell them, and the form of an answer."""
from itertools import product

FULL = 18446744073709551615
WRONG_N = (0, -1, -64, 65, 66, 1000, -2147483648, 2147483647)
# Of no numbers, and of more than 24.
WRONG_ROWS = ([], [0] * 25, [1] * 25, list(range(25)), [255] * 26, [7] * 32, list(range(63)), [0] * 64, [255] * 64)


def members(mask):
    return [x for x in range(mask.bit_length()) if mask >> x & 1]


def answer_of(found):
    return [len(found), sum(1 << x for x in found)]


def spread_masks(n, how_many):
    """Masks of n bits that look mixed, the same ones on every run."""
    return [(0x9E3779B97F4A7C15 * (i + 1) ^ (i * i << 29)) % (1 << n) for i in range(how_many)]


def drawn_sets(n):
    """Mixed sets of n, dense ones and sparse ones."""
    masks = spread_masks(n, 9)
    sparse = [masks[i] & masks[i + 1] & masks[i + 2] for i in range(7)]
    return masks + sparse + [1 << n - 1, 1 << n - 1 | 1 << n // 3]


def wrong_sets(n):
    """Sets with a remainder that isn't there; n is below 64."""
    return (1 << n, 1 << n | 1, 1 << 63, FULL)


def all_rows(n):
    """All rows of 1 to 4 numbers from 0 to n."""
    return [list(row) for m in range(1, 5) for row in product(range(n + 1), repeat=m)]


def mixed(i):
    """A number of 64 bits that looks mixed, the same one on every run."""
    x = 0x9E3779B97F4A7C15 * (i + 1) & FULL
    x = 0xD6E8FEB86659FD93 * (x ^ x >> 32) & FULL
    return x ^ x >> 32


def drawn_row(m, below, seed):
    return [mixed(64 * seed + place) % below for place in range(m)]


def drawn_rows(n, m):
    """Rows of m numbers: any from 0 to 255, small ones, and ones that all leave the same remainder."""
    seed = 64 * m + n
    small = [1 + x for x in drawn_row(m, max(1, n // 4), seed)]
    rest = mixed(seed) % n
    equal = [rest + n * x for x in drawn_row(m, (255 - rest) // n + 1, seed)]
    return [drawn_row(m, 256, seed), drawn_row(m, 256, seed + 2000), small, drawn_row(m, 2, seed), equal]


def plain_sums(row):
    """For each mask of places the sum of their numbers."""
    totals = [0]
    for number in row:
        totals += [total + number for total in totals]
    return totals


def plain_least(n, row, fits):
    """Every mask but 0 tried, the least first: the first of a fitting number of places whose sum n divides."""
    for mask, total in enumerate(plain_sums(row)):
        if mask > 0 and total % n == 0 and fits(mask.bit_count()):
            return [mask.bit_count(), mask]
    return [-5]


class Watched(list):
    """A row that can't be changed, not for a while either."""

    def refuse(self, *given, **named):
        raise AssertionError("the row is changed")

    append = clear = extend = insert = pop = remove = reverse = sort = refuse
    __setitem__ = __delitem__ = __iadd__ = __imul__ = refuse


def check_row_unchanged(test, asked):
    for n, row in ((3, [1, 2, 3, 4]), (5, [5, 5, 1]), (64, [1]), (2, [1, 3, 1]), (0, [1, 2]), (7, []), (7, [255] * 25)):
        given = list(row)
        answer = asked(n, given)
        test.assertEqual(given, row, n)
        test.assertEqual([type(x) for x in given], [int] * len(row), n)
        test.assertEqual(asked(n, Watched(row)), answer, (n, row))
        answer.append(99)
        test.assertEqual(given, row, n)


def check_row_refusals(test, asked):
    """What is asked with n and a row refuses every wrong n, every wrong row, and both, by [-2]."""
    calls = [(n, row) for n in WRONG_N for row in ([0], [1, 2, 3], [255] * 13, [0] * 24) + WRONG_ROWS]
    calls += [(n, row) for n in range(1, 65) for row in WRONG_ROWS]
    for call in calls:
        test.assertEqual(asked(*call), [-2], call)
        check_form(test, asked(*call), 1)


def check_form(test, answer, length):
    test.assertIs(type(answer), list)
    test.assertEqual([type(x) for x in answer], [int] * length)


def check_refusals(test, asked):
    """What is asked with n and one set alone refuses every wrong n and every wrong set by [-2]."""
    calls = [(n, a) for n in WRONG_N for a in (0, 1, 0b11, FULL)]
    calls += [(n, a) for n in range(1, 64) for a in wrong_sets(n)]
    for call in calls:
        test.assertEqual(asked(*call), [-2], call)
        check_form(test, asked(*call), 1)


def check_answer_forms(test, asked, length):
    for call in ((1, 0), (1, 1), (2, 3), (7, 5), (7, 0), (64, FULL)):
        check_form(test, asked(*call), length)


def check_nothing_kept(test, asked, calls, between):
    """The same calls answer the same again, whatever was asked or done with the answers meanwhile."""
    first = [asked(*call) for call in calls]
    kept = [list(answer) for answer in first]
    for answer in first:
        answer.append(99)
    for call in reversed(calls):
        asked(*call)
        between()
    test.assertEqual([asked(*call) for call in calls], kept)
