import unittest

from plain import WRONG_N, check_form, check_nothing_kept, members
from remaindersums.sets import free, step, sums


def plain_is_free(n, a):
    """No member is the sum of two members, which may be one."""
    inside = members(a)
    return not any((x + y) % n in inside for x in inside for y in inside)


def plain_free(n):
    """Every set tried, the lesser mask first; a later one must have more members."""
    largest = [0, 0]
    for a in range(1 << n):
        if len(members(a)) > largest[0] and plain_is_free(n, a):
            largest = [len(members(a)), a]
    return largest


def told_size(n):
    """How many there are after Diananda and Yap."""
    primes = [p for p in range(2, n + 1) if n % p == 0 and all(p % q for q in range(2, p))]
    fitting = [p for p in primes if p % 3 == 2]
    if fitting:
        return n * (fitting[0] + 1) // (3 * fitting[0])
    return n // 3 if n % 3 == 0 else (n - 1) // 3


class Ordinary(unittest.TestCase):
    def test_written_out(self):
        # {1, 3} modulo 4, {2, 3} modulo 5, {1, 3, 5} modulo 6
        self.assertEqual(free(4), [2, 0b1010])
        self.assertEqual(free(5), [2, 0b1100])
        self.assertEqual(free(6), [3, 0b101010])
        # {1, 3} modulo 7, of {2, 3} and others of two the least mask
        self.assertEqual(free(7), [2, 0b1010])
        # {4, 5, 6, 7} modulo 11
        self.assertEqual(free(11), [4, 0b11110000])

    def test_all_sets(self):
        for n in range(1, 13):
            self.assertEqual(free(n), plain_free(n), n)

    def test_every_n(self):
        for n in range(1, 25):
            count, mask = free(n)
            self.assertEqual(count, told_size(n), n)
            self.assertEqual(len(members(mask)), count, n)
            self.assertLess(mask, 1 << n, n)
            self.assertTrue(plain_is_free(n, mask), n)
            self.assertEqual(sums(n, mask, mask)[1] & mask, 0, n)


class Edges(unittest.TestCase):
    def test_n_of_1_has_the_empty_set_alone(self):
        self.assertEqual(free(1), [0, 0])

    def test_n_of_2_and_3(self):
        self.assertEqual(free(2), [1, 0b10])
        # {1, 2} modulo 3 is not one: 1 + 1 is 2
        self.assertEqual(free(3), [1, 0b10])

    def test_n_of_12(self):
        self.assertEqual(free(12), [6, 0b101010101010])

    def test_n_of_23_and_24(self):
        self.assertEqual(free(23), [8, 0b1111111100000000])
        self.assertEqual(free(24), [12, 0b101010101010101010101010])


class Refused(unittest.TestCase):
    def test_n(self):
        for n in WRONG_N + (-2, -24, 25, 26, 32, 63, 64):
            self.assertEqual(free(n), [-2], n)
            check_form(self, free(n), 1)


class Form(unittest.TestCase):
    def test_answers(self):
        for n in range(1, 13):
            check_form(self, free(n), 2)


class NothingKept(unittest.TestCase):
    def test_asked_again(self):
        calls = [(1,), (7,), (0,), (12,), (25,), (6,), (11,)]
        check_nothing_kept(self, free, calls, lambda: (step(7, 0b101010), free(9)))


if __name__ == "__main__":
    unittest.main()
