import unittest

from plain import FULL, WRONG_N, answer_of, check_form, check_nothing_kept, members, spread_masks, wrong_sets
from remaindersums.sets import often, sums


def plain_sums(n, a, b):
    """Each of the one added to each of the other."""
    return answer_of({(x + y) % n for x in members(a) for y in members(b)})


class Ordinary(unittest.TestCase):
    def test_written_out(self):
        # {1, 2} + {0, 3} = {1, 2, 4, 5}
        self.assertEqual(sums(7, 0b110, 0b1001), [4, 0b110110])
        # {4, 6} + {5} modulo 7 = {2, 4}: both go round
        self.assertEqual(sums(7, 0b1010000, 0b100000), [2, 0b10100])
        # {0, 3} + {0, 3} modulo 6 = {0, 3}: different pairs meet in one sum
        self.assertEqual(sums(6, 0b1001, 0b1001), [2, 0b1001])
        # {8, 9} + {8, 9} modulo 10 = {6, 7, 8}
        self.assertEqual(sums(10, 0b1100000000, 0b1100000000), [3, 0b111000000])

    def test_all_pairs_of_small_n(self):
        for n in range(1, 7):
            for a in range(1 << n):
                for b in range(1 << n):
                    self.assertEqual(sums(n, a, b), plain_sums(n, a, b), (n, a, b))

    def test_every_n(self):
        for n in range(1, 65):
            masks = spread_masks(n, 6)
            sparse = [masks[0] & masks[1] & masks[2], masks[3] & masks[4] & masks[5], 1 << n - 1]
            for a in masks + sparse:
                for b in sparse:
                    self.assertEqual(sums(n, a, b), plain_sums(n, a, b), (n, a, b))
                    self.assertEqual(sums(n, b, a), plain_sums(n, a, b), (n, b, a))


class Edges(unittest.TestCase):
    def test_n_of_1(self):
        self.assertEqual(sums(1, 0, 0), [0, 0])
        self.assertEqual(sums(1, 1, 0), [0, 0])
        self.assertEqual(sums(1, 0, 1), [0, 0])
        self.assertEqual(sums(1, 1, 1), [1, 1])

    def test_n_of_64(self):
        self.assertEqual(sums(64, FULL, FULL), [64, FULL])
        self.assertEqual(sums(64, FULL, 1 << 63), [64, FULL])
        self.assertEqual(sums(64, 1, 1 << 63), [1, 1 << 63])
        self.assertEqual(sums(64, 1 << 63, 1 << 63), [1, 1 << 62])
        self.assertEqual(sums(64, 1 << 63, 0b11), [2, 1 << 63 | 1])

    def test_empty_sets(self):
        for n in (1, 2, 13, 63, 64):
            full = (1 << n) - 1
            self.assertEqual(sums(n, 0, 0), [0, 0])
            self.assertEqual(sums(n, 0, full), [0, 0])
            self.assertEqual(sums(n, full, 0), [0, 0])

    def test_full_sets(self):
        for n in range(1, 65):
            full = (1 << n) - 1
            self.assertEqual(sums(n, full, full), [n, full])
            self.assertEqual(sums(n, full, 1 << n - 1), [n, full])


class Refused(unittest.TestCase):
    def test_n(self):
        for n in WRONG_N:
            for a, b in ((0, 0), (1, 1), (FULL, FULL), (0, FULL), (FULL, 0)):
                self.assertEqual(sums(n, a, b), [-2], (n, a, b))

    def test_remainder_that_is_not_there(self):
        for n in range(1, 64):
            for wrong in wrong_sets(n):
                for good in (0, 1, (1 << n) - 1):
                    self.assertEqual(sums(n, wrong, good), [-2], (n, wrong, good))
                    self.assertEqual(sums(n, good, wrong), [-2], (n, good, wrong))
                self.assertEqual(sums(n, wrong, wrong), [-2], (n, wrong))


class Form(unittest.TestCase):
    def test_answers(self):
        for n, a, b in ((1, 0, 0), (1, 1, 1), (7, 5, 9), (64, FULL, FULL)):
            check_form(self, sums(n, a, b), 2)

    def test_refusals(self):
        for n, a, b in ((0, 0, 0), (65, 0, 0), (3, 8, 0), (3, 0, 8)):
            check_form(self, sums(n, a, b), 1)


class NothingKept(unittest.TestCase):
    def test_asked_again(self):
        calls = [(7, 0b110, 0b1001), (0, 1, 1), (64, FULL, 1), (7, 0, 0), (3, 8, 1), (8, 0b110, 0b1001)]
        check_nothing_kept(self, sums, calls, lambda: often(7, 0b1010, 3))


if __name__ == "__main__":
    unittest.main()
