"""What several tests need: sets of remainders as the document's words tell them, and the form of an answer."""

FULL = 18446744073709551615
WRONG_N = (0, -1, -64, 65, 66, 1000, -2147483648, 2147483647)


def members(mask):
    return [x for x in range(mask.bit_length()) if mask >> x & 1]


def answer_of(found):
    return [len(found), sum(1 << x for x in found)]


def spread_masks(n, how_many):
    """Masks of n bits that look mixed, the same ones on every run."""
    return [(0x9E3779B97F4A7C15 * (i + 1) ^ (i * i << 29)) % (1 << n) for i in range(how_many)]


def drawn_sets(n):
    """Mixed sets of n, dense ones and sparse ones."""
    masks = spread_masks(n, 9)
    sparse = [masks[i] & masks[i + 1] & masks[i + 2] for i in range(7)]
    return masks + sparse + [1 << n - 1, 1 << n - 1 | 1 << n // 3]


def wrong_sets(n):
    """Sets with a remainder that isn't there; n is below 64."""
    return (1 << n, 1 << n | 1, 1 << 63, FULL)


def check_form(test, answer, length):
    test.assertIs(type(answer), list)
    test.assertEqual([type(x) for x in answer], [int] * length)


def check_refusals(test, asked):
    """What is asked with n and one set alone refuses every wrong n and every wrong set by [-2]."""
    calls = [(n, a) for n in WRONG_N for a in (0, 1, 0b11, FULL)]
    calls += [(n, a) for n in range(1, 64) for a in wrong_sets(n)]
    for call in calls:
        test.assertEqual(asked(*call), [-2], call)
        check_form(test, asked(*call), 1)


def check_answer_forms(test, asked, length):
    for call in ((1, 0), (1, 1), (2, 3), (7, 5), (7, 0), (64, FULL)):
        check_form(test, asked(*call), length)


def check_nothing_kept(test, asked, calls, between):
    """The same calls answer the same again, whatever was asked or done with the answers meanwhile."""
    first = [asked(*call) for call in calls]
    kept = [list(answer) for answer in first]
    for answer in first:
        answer.append(99)
    for call in reversed(calls):
        asked(*call)
        between()
    test.assertEqual([asked(*call) for call in calls], kept)
