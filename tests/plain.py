"""What several tests need: sets of remainders as the document's words tell them, and the form of an answer."""

FULL = 18446744073709551615
WRONG_N = (0, -1, -64, 65, 66, 1000, -2147483648, 2147483647)


def members(mask):
    return [x for x in range(mask.bit_length()) if mask >> x & 1]


def answer_of(found):
    return [len(found), sum(1 << x for x in found)]


def wrong_sets(n):
    """Sets with a remainder that isn't there; n is below 64."""
    return (1 << n, 1 << n | 1, 1 << 63, FULL)


def check_form(test, answer, length):
    test.assertIs(type(answer), list)
    test.assertEqual([type(x) for x in answer], [int] * length)


def check_nothing_kept(test, asked, calls, between):
    """The same calls answer the same again, whatever was asked or done with the answers meanwhile."""
    first = [asked(*call) for call in calls]
    kept = [list(answer) for answer in first]
    for answer in first:
        answer.append(99)
    for call in reversed(calls):
        asked(*call)
        between()
    test.assertEqual([asked(*call) for call in calls], kept)
