"""Sets of remainders modulo n, each one a mask: bit x stands for the remainder x."""

LARGEST_N = 64
LARGEST_K = 1000
REFUSAL = -2


def is_wrong(n, a):
    # n is looked at first: a shift by a negative n would fail instead of being refused.
    return n < 1 or n > LARGEST_N or (a >> n) != 0


def moved(n, a, h):
    """Each of a with h, from 0 to n - 1, added to it."""
    full = (1 << n) - 1
    return ((a << h) | (a >> (n - h))) & full


def added(n, a, b):
    """All sums of one of a and one of b."""
    total = 0
    for h in range(n):
        if ((b >> h) & 1) == 1:
            total = total | moved(n, a, h)
    return total


def told(n, a):
    """How many a has, then a."""
    return [sum([(a >> x) & 1 for x in range(n)]), a]


def sums(n, a, b):
    if is_wrong(n, a) or is_wrong(n, b):
        return [REFUSAL]
    return told(n, added(n, a, b))


def often(n, a, k):
    if is_wrong(n, a) or k < 0 or k > LARGEST_K:
        return [REFUSAL]
    # The sum of none is 0, so the walk begins with the set that has just 0.
    total = 1
    for turn in range(k):
        total = added(n, total, a)
    return told(n, total)


def two(n, a):
    if is_wrong(n, a):
        return [REFUSAL]
    total = 0
    for x in range(n):
        if ((a >> x) & 1) == 1:
            # x is left out of what is moved, so that x + x comes only where two different ones make it.
            total = total | moved(n, a ^ (1 << x), x)
    return told(n, total)


def still(n, a):
    if is_wrong(n, a):
        return [REFUSAL]
    unmoving = 0
    for h in range(n):
        if moved(n, a, h) == a:
            unmoving = unmoving | (1 << h)
    return told(n, unmoving)
