import unittest
from itertools import combinations_with_replacement

from plain import FULL, WRONG_N, answer_of, check_form, check_nothing_kept, members, wrong_sets
from remaindersums.sets import often, sums


def plain_often(n, a, k):
    """Every choice of k of a, each as often as wanted, added up."""
    return answer_of({sum(chosen) % n for chosen in combinations_with_replacement(members(a), k)})


def stepwise_often(n, a, k):
    """The same, one summand after another, where the choices are too many to list."""
    found = {0}
    for _ in range(k):
        found = {(x + y) % n for x in found for y in members(a)}
    return answer_of(found)


class Ordinary(unittest.TestCase):
    def test_written_out(self):
        # two of {1, 3}: 2, 4, 6
        self.assertEqual(often(7, 0b1010, 2), [3, 0b1010100])
        # three of {1, 3} modulo 7: 3, 5, 7, 9, which are 3, 5, 0, 2
        self.assertEqual(often(7, 0b1010, 3), [4, 0b101101])
        # five of {2} modulo 6: 10, which is 4
        self.assertEqual(often(6, 0b100, 5), [1, 0b10000])
        # of {0, 3} modulo 6 nothing new comes
        self.assertEqual(often(6, 0b1001, 4), [2, 0b1001])

    def test_all_sets_of_small_n(self):
        for n in range(1, 7):
            for a in range(1 << n):
                for k in range(8):
                    self.assertEqual(often(n, a, k), plain_often(n, a, k), (n, a, k))

    def test_every_n(self):
        for n in range(1, 65):
            for a in (1 << n - 1, 1 << n // 2 | 1 << n // 3, 1 << n - 1 | 1 << n // 2 | 1 << n // 5):
                for k in (0, 1, 2, 3, 7, 30):
                    self.assertEqual(often(n, a, k), plain_often(n, a, k), (n, a, k))


class Edges(unittest.TestCase):
    def test_k_of_0_is_just_0(self):
        for n in range(1, 65):
            for a in (0, 1, 1 << n - 1, (1 << n) - 1):
                self.assertEqual(often(n, a, 0), [1, 1], (n, a))

    def test_k_of_1_is_the_set(self):
        for n in range(1, 65):
            for a in (0, 1, 1 << n - 1, (1 << n) - 1):
                self.assertEqual(often(n, a, 1), [len(members(a)), a], (n, a))

    def test_k_of_2_is_the_sums_with_itself(self):
        for n in range(1, 10):
            for a in range(1 << n):
                self.assertEqual(often(n, a, 2), sums(n, a, a), (n, a))

    def test_k_of_30(self):
        self.assertEqual(often(64, 0b11, 30), [31, (1 << 31) - 1])
        self.assertEqual(often(64, 1 << 63, 30), [1, 1 << 34])
        self.assertEqual(often(64, FULL, 30), [64, FULL])
        self.assertEqual(often(31, 0b11, 30), [31, (1 << 31) - 1])
        self.assertEqual(often(31, 0b11, 29), [30, (1 << 30) - 1])

    def test_k_up_to_1000(self):
        for n in range(1, 13):
            for a in (1 << n - 1, 1 << n // 2, 1 << n - 1 | 1, 1 << n - 1 | 1 << n // 2):
                for k in (31, 100, 998, 999, 1000):
                    self.assertEqual(often(n, a, k), plain_often(n, a, k), (n, a, k))

    def test_k_of_1000_of_larger_sets(self):
        for n in range(1, 13):
            for a in (0b111 % (1 << n), 0b101010101010 % (1 << n), 0b10010010010 % (1 << n), (1 << n) - 1):
                for k in (999, 1000):
                    self.assertEqual(often(n, a, k), stepwise_often(n, a, k), (n, a, k))

    def test_n_of_1(self):
        for k in (1, 2, 30, 1000):
            self.assertEqual(often(1, 0, k), [0, 0])
            self.assertEqual(often(1, 1, k), [1, 1])

    def test_empty_set(self):
        for n in range(1, 65):
            for k in (1, 2, 30):
                self.assertEqual(often(n, 0, k), [0, 0], (n, k))

    def test_full_set(self):
        for n in range(1, 65):
            full = (1 << n) - 1
            for k in (1, 2, 30):
                self.assertEqual(often(n, full, k), [n, full], (n, k))


class Refused(unittest.TestCase):
    def test_n(self):
        for n in WRONG_N:
            for a in (0, 1, FULL):
                for k in (0, 1, 30, -1, 1001):
                    self.assertEqual(often(n, a, k), [-2], (n, a, k))

    def test_remainder_that_is_not_there(self):
        for n in range(1, 64):
            for a in wrong_sets(n):
                for k in (0, 1, 2, 30):
                    self.assertEqual(often(n, a, k), [-2], (n, a, k))

    def test_k(self):
        for n in (1, 2, 12, 63, 64):
            for a in (0, 1, (1 << n) - 1):
                for k in (-1, -2, 1001, 1002, -2147483648, 2147483647):
                    self.assertEqual(often(n, a, k), [-2], (n, a, k))


class Form(unittest.TestCase):
    def test_answers(self):
        for n, a, k in ((1, 0, 0), (1, 1, 1), (7, 5, 0), (7, 5, 3), (7, 0, 3), (64, FULL, 30)):
            check_form(self, often(n, a, k), 2)

    def test_refusals(self):
        for n, a, k in ((0, 0, 0), (65, 0, 0), (3, 8, 0), (3, 1, -1), (3, 1, 1001)):
            check_form(self, often(n, a, k), 1)


class NothingKept(unittest.TestCase):
    def test_asked_again(self):
        calls = [(7, 0b1010, 3), (0, 1, 1), (64, FULL, 2), (7, 0, 0), (3, 8, 1), (3, 1, 1001), (8, 0b1010, 3)]
        check_nothing_kept(self, often, calls, lambda: sums(7, 0b110, 0b1001))


if __name__ == "__main__":
    unittest.main()
