"""Sets of remainders modulo n, each one a mask: bit x stands for the remainder x.

Some numbers of a row are a mask too: bit p stands for the number at place p, the first place being 0.
"""

LARGEST_N = 64
LARGEST_K = 1000
LARGEST_FREE_N = 24
LARGEST_M = 24
REFUSAL = -2
NONE_FOUND = -5


def is_wrong(n, a):
    # n is looked at first: a shift by a negative n would fail instead of being refused.
    return n < 1 or n > LARGEST_N or (a >> n) != 0


def moved(n, a, h):
    """Each of a with h, from 0 to n - 1, added to it."""
    full = (1 << n) - 1
    return ((a << h) | (a >> (n - h))) & full


def added(n, a, b):
    """All sums of one of a and one of b."""
    total = 0
    for h in range(n):
        if ((b >> h) & 1) == 1:
            total = total | moved(n, a, h)
    return total


def told(n, a):
    """How many a has, then a."""
    return [sum([(a >> x) & 1 for x in range(n)]), a]


def sums(n, a, b):
    if is_wrong(n, a) or is_wrong(n, b):
        return [REFUSAL]
    return told(n, added(n, a, b))


def often(n, a, k):
    if is_wrong(n, a) or k < 0 or k > LARGEST_K:
        return [REFUSAL]
    # The sum of none is 0, so the walk begins with the set that has just 0.
    total = 1
    for turn in range(k):
        total = added(n, total, a)
    return told(n, total)


def two(n, a):
    if is_wrong(n, a):
        return [REFUSAL]
    total = 0
    for x in range(n):
        if ((a >> x) & 1) == 1:
            # x is left out of what is moved, so that x + x comes only where two different ones make it.
            total = total | moved(n, a ^ (1 << x), x)
    return told(n, total)


def still(n, a):
    if is_wrong(n, a):
        return [REFUSAL]
    unmoving = 0
    for h in range(n):
        if moved(n, a, h) == a:
            unmoving = unmoving | (1 << h)
    return told(n, unmoving)


def joined(n, a, d):
    """All of a that steps of d, forward or back, reach from its least one without leaving a."""
    reached = a ^ (a & (a - 1))
    before = 0
    while reached != before:
        before = reached
        reached = reached | ((moved(n, reached, d) | moved(n, reached, n - d)) & a)
    return reached


def step(n, a):
    if is_wrong(n, a):
        return [REFUSAL]
    # A set of fewer than two would be joined by any d.
    if (a & (a - 1)) == 0:
        return [NONE_FOUND]
    for d in range(1, n):
        # Steps of d go through the remainders in rings, so what they join is one row or one whole ring.
        if joined(n, a, d) == a:
            return [d]
    return [NONE_FOUND]


def is_free(n, a):
    return (added(n, a, a) & a) == 0


def all_free(n):
    """All sets none of whose members is the sum of two of them, the lesser mask first."""
    # Whatever is left of such a set is one too, so each is found by adding its largest member last.
    found = [0]
    for x in range(n):
        found = found + [a | (1 << x) for a in found if is_free(n, a | (1 << x))]
    return found


def free(n):
    if n < 1 or n > LARGEST_FREE_N:
        return [REFUSAL]
    largest = [0, 0]
    for a in all_free(n):
        candidate = told(n, a)
        # Of equally many the one met first stays: it has the least mask.
        if candidate[0] > largest[0]:
            largest = candidate
    return largest


def is_wrong_row(n, row):
    return n < 1 or n > LARGEST_N or len(row) < 1 or len(row) > LARGEST_M


def least_masks(n, row):
    """The least mask for each (how many places, remainder of their numbers' sum) that the row has."""
    least = {(0, 0): 0}
    for place, number in enumerate(row):
        for key in list(least):
            # A mask with this place is greater than every one before it, so what is there already stays.
            least.setdefault((key[0] + 1, (key[1] + number) % n), least[key] | (1 << place))
    return least


def some(n, row):
    if is_wrong_row(n, row):
        return [REFUSAL]
    least = least_masks(n, row)
    masks = [least[key] for key in least if key[0] > 0 and key[1] == 0]
    if masks == []:
        return [NONE_FOUND]
    return told(len(row), min(masks))


def just(n, row):
    if is_wrong_row(n, row):
        return [REFUSAL]
    least = least_masks(n, row)
    if (n, 0) not in least:
        return [NONE_FOUND]
    return told(len(row), least[(n, 0)])
