import unittest
from math import gcd

from plain import FULL, check_answer_forms, check_nothing_kept, check_refusals, drawn_sets, members, spread_masks
from remaindersums.sets import free, step, still


def plain_steps(n):
    """Every set s, s + d, ..., s + (k - 1) d of different ones, k from 2 to n, with its least d."""
    least = {}
    for d in range(1, n):
        for s in range(n):
            a = 1 << s
            for i in range(1, n):
                x = (s + i * d) % n
                if a >> x & 1:
                    break
                a |= 1 << x
                least.setdefault(a, d)
    return least


def row_of(n, s, d, k):
    """The mask of s, s + d, ..., s + (k - 1) d."""
    return sum(1 << x for x in {(s + i * d) % n for i in range(k)})


def drawn_rows(n):
    """For every d a set of drawn s and k, and the same with one member more or less."""
    rows = []
    for d, drawn in enumerate(spread_masks(64, n - 1), start=1):
        k = 2 + (drawn >> 32) % (n // gcd(n, d) - 1)
        a = row_of(n, (drawn >> 40) % n, d, k)
        inside = members(a)
        rows += [a, a | 1 << (drawn >> 48) % n, a ^ 1 << inside[(drawn >> 56) % k], a ^ 1 << inside[0]]
    return rows


class Ordinary(unittest.TestCase):
    def test_written_out(self):
        # {1, 3, 5} modulo 7: by 2
        self.assertEqual(step(7, 0b101010), [2])
        # {2, 3, 4, 5} modulo 9: by 1
        self.assertEqual(step(9, 0b111100), [1])
        # {1, 4, 7, 10} modulo 16: by 3
        self.assertEqual(step(16, 0b10010010010), [3])
        # {0, 1, 3} modulo 8: by none
        self.assertEqual(step(8, 0b1011), [-5])

    def test_all_sets_of_small_n(self):
        for n in range(1, 12):
            least = plain_steps(n)
            for a in range(1 << n):
                self.assertEqual(step(n, a), [least.get(a, -5)], (n, a))

    def test_every_n(self):
        for n in range(1, 65):
            least = plain_steps(n)
            for a in drawn_sets(n) + drawn_rows(n):
                self.assertEqual(step(n, a), [least.get(a, -5)], (n, a))

    def test_what_is_drawn_has_both_answers(self):
        for n in range(8, 65):
            answers = [step(n, a)[0] for a in drawn_rows(n)]
            self.assertIn(-5, answers, n)
            self.assertGreater(max(answers), 2, n)


class Edges(unittest.TestCase):
    def test_empty_set(self):
        for n in range(1, 65):
            self.assertEqual(step(n, 0), [-5], n)

    def test_one_member(self):
        for n in range(1, 65):
            for x in range(n):
                self.assertEqual(step(n, 1 << x), [-5], (n, x))

    def test_n_of_1(self):
        self.assertEqual(step(1, 0), [-5])
        self.assertEqual(step(1, 1), [-5])

    def test_n_of_2(self):
        self.assertEqual(step(2, 0b00), [-5])
        self.assertEqual(step(2, 0b01), [-5])
        self.assertEqual(step(2, 0b10), [-5])
        self.assertEqual(step(2, 0b11), [1])

    def test_n_of_3(self):
        self.assertEqual([step(3, a) for a in range(8)], [[-5], [-5], [-5], [1], [-5], [1], [1], [1]])

    def test_two_members(self):
        for n in range(2, 65):
            for x in (0, n // 3, n - 1):
                for y in range(n):
                    if x != y:
                        self.assertEqual(step(n, 1 << x | 1 << y), [min((x - y) % n, (y - x) % n)], (n, x, y))

    def test_full_set(self):
        for n in range(2, 65):
            self.assertEqual(step(n, (1 << n) - 1), [1], n)

    def test_all_but_one(self):
        for n in range(3, 65):
            for x in range(n):
                self.assertEqual(step(n, (1 << n) - 1 ^ 1 << x), [1], (n, x))

    def test_one_within_is_missing(self):
        # {0, 1, 3, 4} modulo 11: 2 is missing
        self.assertEqual(step(11, 0b11011), [-5])
        # {1, 4, 10, 13} modulo 20: 7 is missing
        self.assertEqual(step(20, 0b10010000010010), [-5])
        # {0, 2, 6, 8} modulo 10: 4 is missing, but gone round it is 6, 8, 0, 2
        self.assertEqual(step(10, 0b101000101), [2])

    def test_an_end_is_missing(self):
        # {1, 4, 7} and {4, 7, 10} of {1, 4, 7, 10} modulo 16
        self.assertEqual(step(16, 0b10010010), [3])
        self.assertEqual(step(16, 0b10010010000), [3])

    def test_one_too_many(self):
        # {1, 4, 7, 8} modulo 16
        self.assertEqual(step(16, 0b110010010), [-5])

    def test_repeats_after_a_part_of_n(self):
        for n in range(2, 65):
            for part in range(1, n):
                if n % part == 0:
                    for s in (0, part // 2, part - 1):
                        self.assertEqual(step(n, row_of(n, s, part, n // part)), [part], (n, part, s))
        # {0, 1, 6, 7} modulo 12 and {0, 1, 3, 4} modulo 6
        self.assertEqual(step(12, 0b11000011), [-5])
        self.assertEqual(step(6, 0b11011), [-5])

    def test_whole_rings_and_more(self):
        # {0, 2, 4} modulo 6 comes back to itself by 2; {1} beside it is never reached
        self.assertEqual(step(6, 0b10101), [2])
        self.assertEqual(step(6, 0b10111), [-5])
        # {0, 3, 6, 9} and {1, 4} modulo 12
        self.assertEqual(step(12, 0b1001011011), [-5])
        # {0, 4, 8} and {1, 5, 9} modulo 12
        self.assertEqual(step(12, 0b1100110011), [-5])

    def test_d_with_a_common_divisor(self):
        # {0, 2, 4} modulo 8; {1, 5} modulo 12; {2, 8, 14} modulo 20; 3, 9, 0 modulo 15
        self.assertEqual(step(8, 0b10101), [2])
        self.assertEqual(step(12, 0b100010), [4])
        self.assertEqual(step(20, 0b100000100000100), [6])
        self.assertEqual(step(15, 0b1000001001), [6])
        # {0, 3} and {1, 4} modulo 9: d of 3 joins each pair, not the two
        self.assertEqual(step(9, 0b11011), [-5])

    def test_round_past_n(self):
        # {5, 6, 0, 1} modulo 7; {4, 0, 3} modulo 7 by 3; {8, 1, 4} modulo 10 by 3
        self.assertEqual(step(7, 0b1100011), [1])
        self.assertEqual(step(7, 0b11001), [3])
        self.assertEqual(step(10, 0b100010010), [3])
        # 0, 5, 10, 2, 7, 12, 4 modulo 13: round more than once
        self.assertEqual(step(13, row_of(13, 0, 5, 7)), [5])

    def test_the_least_of_several(self):
        # {0, 2, 4, 6, 8} modulo 10 by 2, 4, 6 and 8; {0, 2, 4, 6} by 2, 4, 6 and 8 too
        self.assertEqual(step(10, 0b101010101), [2])
        self.assertEqual(step(10, 0b1010101), [2])
        # by d as well as by n - d: 6, 4, 2 modulo 11 is by 9
        self.assertEqual(step(11, 0b1010100), [2])

    def test_moved_it_is_the_same(self):
        for n in (5, 12, 31, 64):
            for a in drawn_rows(n)[:12]:
                for h in range(n):
                    self.assertEqual(step(n, sum(1 << (x + h) % n for x in members(a))), step(n, a), (n, a, h))

    def test_n_of_64(self):
        self.assertEqual(step(64, 1 << 63), [-5])
        self.assertEqual(step(64, 1 << 63 | 1), [1])
        self.assertEqual(step(64, 1 << 63 | 1 << 31), [32])
        self.assertEqual(step(64, 1 << 63 | 1 << 62 | 1), [1])
        self.assertEqual(step(64, 1 << 63 | 0b1010), [2])
        self.assertEqual(step(64, 1 << 63 | 0b101), [-5])
        self.assertEqual(step(64, row_of(64, 63, 27, 40)), [27])
        self.assertEqual(step(64, 0xAAAAAAAAAAAAAAAA), [2])
        self.assertEqual(step(64, 0xAAAAAAAAAAAAAAAB), [-5])
        self.assertEqual(step(64, FULL ^ 1 << 63), [1])
        self.assertEqual(step(64, FULL), [1])


class Form(unittest.TestCase):
    def test_answers(self):
        check_answer_forms(self, step, 1)

    def test_refused(self):
        check_refusals(self, step)


class NothingKept(unittest.TestCase):
    def test_asked_again(self):
        calls = [(7, 0b101010), (0, 1), (64, FULL), (7, 0), (3, 8), (8, 0b1011), (8, 0b101010)]
        check_nothing_kept(self, step, calls, lambda: (still(6, 0b1001), free(5)))


if __name__ == "__main__":
    unittest.main()
