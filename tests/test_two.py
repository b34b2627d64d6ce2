import unittest
from itertools import combinations

from plain import FULL, answer_of, check_answer_forms, check_nothing_kept, check_refusals, drawn_sets, members
from remaindersums.sets import still, sums, two


def plain_two(n, a):
    """Each of a added to each other one of a."""
    return answer_of({(x + y) % n for x, y in combinations(members(a), 2)})


class Ordinary(unittest.TestCase):
    def test_written_out(self):
        # {1, 2, 4}: 3, 5, 6
        self.assertEqual(two(7, 0b10110), [3, 0b1101000])
        # {4, 5, 6} modulo 7: 9, 10, 11, which are 2, 3, 4
        self.assertEqual(two(7, 0b1110000), [3, 0b11100])
        # {0, 1, 3, 4} modulo 6: 1, 3, 4, 4, 5, 7, of which 7 is 1
        self.assertEqual(two(6, 0b11011), [4, 0b111010])

    def test_all_sets_of_small_n(self):
        for n in range(1, 11):
            for a in range(1 << n):
                self.assertEqual(two(n, a), plain_two(n, a), (n, a))

    def test_every_n(self):
        for n in range(1, 65):
            for a in drawn_sets(n):
                self.assertEqual(two(n, a), plain_two(n, a), (n, a))


class Edges(unittest.TestCase):
    def test_empty_set(self):
        for n in range(1, 65):
            self.assertEqual(two(n, 0), [0, 0], n)

    def test_one_member(self):
        for n in range(1, 65):
            for x in range(n):
                self.assertEqual(two(n, 1 << x), [0, 0], (n, x))

    def test_two_members(self):
        for n in range(2, 65):
            for x in range(n - 1):
                self.assertEqual(two(n, 1 << x | 1 << n - 1), [1, 1 << (x + n - 1) % n], (n, x))

    def test_full_set(self):
        for n in range(3, 65):
            full = (1 << n) - 1
            self.assertEqual(two(n, full), [n, full], n)

    def test_n_of_1(self):
        self.assertEqual(two(1, 0), [0, 0])
        self.assertEqual(two(1, 1), [0, 0])

    def test_n_of_2(self):
        self.assertEqual(two(2, 0), [0, 0])
        self.assertEqual(two(2, 0b01), [0, 0])
        self.assertEqual(two(2, 0b10), [0, 0])
        self.assertEqual(two(2, 0b11), [1, 0b10])

    def test_n_of_64(self):
        self.assertEqual(two(64, 1 << 63), [0, 0])
        self.assertEqual(two(64, 1 << 63 | 1), [1, 1 << 63])
        self.assertEqual(two(64, 1 << 63 | 0b10), [1, 1])
        self.assertEqual(two(64, 1 << 63 | 1 << 62), [1, 1 << 61])
        self.assertEqual(two(64, 1 << 63 | 0b11), [3, 1 << 63 | 0b11])
        self.assertEqual(two(64, FULL), [64, FULL])

    def test_one_member_twice_is_not_asked(self):
        # {0, 2} modulo 4: 0 + 0 and 2 + 2 are both 0, but no two different ones make it
        self.assertEqual(two(4, 0b101), [1, 0b100])
        # {1, 3} modulo 8: 1 + 1 = 2 and 3 + 3 = 6 are not asked
        self.assertEqual(two(8, 0b1010), [1, 0b10000])
        # {1, 5} modulo 8: 1 + 1 and 5 + 5 are both 2
        self.assertEqual(two(8, 0b100010), [1, 0b1000000])

    def test_one_member_twice_is_also_two_different_ones(self):
        # {0, 1, 2} modulo 7: 1 + 1 = 0 + 2 is asked; 0 + 0 and 2 + 2 are not
        self.assertEqual(two(7, 0b111), [3, 0b1110])
        # {2, 3, 6} modulo 7: 6 + 6 = 2 + 3, gone round; 2 + 2 = 4 and 3 + 3 = 6 are not asked
        self.assertEqual(two(7, 0b1001100), [3, 0b100110])

    def test_with_the_doubles_it_is_the_sums_with_itself(self):
        for n in range(1, 9):
            for a in range(1 << n):
                twice = sum(1 << x for x in {2 * x % n for x in members(a)})
                self.assertEqual(two(n, a)[1] | twice, sums(n, a, a)[1], (n, a))


class Form(unittest.TestCase):
    def test_answers(self):
        check_answer_forms(self, two, 2)

    def test_refused(self):
        check_refusals(self, two)


class NothingKept(unittest.TestCase):
    def test_asked_again(self):
        calls = [(7, 0b10110), (0, 1), (64, FULL), (7, 0), (3, 8), (8, 0b10110)]
        check_nothing_kept(self, two, calls, lambda: still(6, 0b1001))


if __name__ == "__main__":
    unittest.main()
