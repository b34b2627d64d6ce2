import unittest

from plain import FULL, answer_of, check_answer_forms, check_nothing_kept, check_refusals, drawn_sets, members
from remaindersums.sets import still, sums, two


def plain_still(n, a):
    """Every h tried: each of a moved by it, beside a."""
    before = members(a)
    return answer_of({h for h in range(n) if sorted((x + h) % n for x in before) == before})


def repeated(n, part, pattern):
    """The pattern's set again and again, every part of n."""
    return sum(pattern << start for start in range(0, n, part))


class Ordinary(unittest.TestCase):
    def test_written_out(self):
        # {0, 3} modulo 6: by 0 and by 3
        self.assertEqual(still(6, 0b1001), [2, 0b1001])
        # {1, 3, 5} modulo 6: by 0, 2, 4, none of which need be in the set
        self.assertEqual(still(6, 0b101010), [3, 0b10101])
        # {0, 1, 4, 5} modulo 8: by 0 and by 4
        self.assertEqual(still(8, 0b110011), [2, 0b10001])
        # {0, 1, 2} modulo 6: by 0 alone
        self.assertEqual(still(6, 0b111), [1, 1])

    def test_all_sets_of_small_n(self):
        for n in range(1, 11):
            for a in range(1 << n):
                self.assertEqual(still(n, a), plain_still(n, a), (n, a))

    def test_every_n(self):
        for n in range(1, 65):
            for a in drawn_sets(n):
                self.assertEqual(still(n, a), plain_still(n, a), (n, a))


class Edges(unittest.TestCase):
    def test_0_is_always_among_them(self):
        for n in range(1, 65):
            for a in drawn_sets(n) + [0, 1, (1 << n) - 1]:
                self.assertEqual(still(n, a)[1] & 1, 1, (n, a))

    def test_empty_set(self):
        for n in range(1, 65):
            self.assertEqual(still(n, 0), [n, (1 << n) - 1], n)

    def test_full_set(self):
        for n in range(1, 65):
            full = (1 << n) - 1
            self.assertEqual(still(n, full), [n, full], n)

    def test_one_member(self):
        for n in range(1, 65):
            for x in range(n):
                self.assertEqual(still(n, 1 << x), [1, 1], (n, x))

    def test_all_but_one(self):
        for n in range(2, 65):
            for x in range(n):
                self.assertEqual(still(n, (1 << n) - 1 ^ 1 << x), [1, 1], (n, x))

    def test_repeats_after_a_part_of_n(self):
        for n in range(1, 65):
            for part in range(1, n + 1):
                if n % part == 0:
                    # One member in each part: it moves onto itself by the part's length alone.
                    found = [n // part, repeated(n, part, 1)]
                    self.assertEqual(still(n, repeated(n, part, 1)), found, (n, part))
                    self.assertEqual(still(n, repeated(n, part, 1 << part - 1)), found, (n, part))
                    for pattern in drawn_sets(part):
                        a = repeated(n, part, pattern)
                        self.assertEqual(still(n, a), plain_still(n, a), (n, part, a))

    def test_repeats_but_not_to_the_end(self):
        # {0, 3, 6} modulo 8 and {0, 2, 4} modulo 7: steps that don't close
        self.assertEqual(still(8, 0b1001001), [1, 1])
        self.assertEqual(still(7, 0b10101), [1, 1])

    def test_n_of_1(self):
        self.assertEqual(still(1, 0), [1, 1])
        self.assertEqual(still(1, 1), [1, 1])

    def test_n_of_2(self):
        self.assertEqual(still(2, 0b00), [2, 0b11])
        self.assertEqual(still(2, 0b01), [1, 1])
        self.assertEqual(still(2, 0b10), [1, 1])
        self.assertEqual(still(2, 0b11), [2, 0b11])

    def test_n_of_64(self):
        self.assertEqual(still(64, 1 << 63), [1, 1])
        self.assertEqual(still(64, 1 << 63 | 1 << 31), [2, 1 << 32 | 1])
        self.assertEqual(still(64, 1 << 63 | 1), [1, 1])
        self.assertEqual(still(64, 0xAAAAAAAAAAAAAAAA), [32, 0x5555555555555555])
        self.assertEqual(still(64, FULL ^ 1 << 63), [1, 1])
        self.assertEqual(still(64, FULL), [64, FULL])


class Form(unittest.TestCase):
    def test_answers(self):
        check_answer_forms(self, still, 2)

    def test_refused(self):
        check_refusals(self, still)


class NothingKept(unittest.TestCase):
    def test_asked_again(self):
        calls = [(6, 0b1001), (0, 1), (64, FULL), (7, 0), (3, 8), (8, 0b110011)]
        check_nothing_kept(self, still, calls, lambda: (two(7, 0b10110), sums(7, 0b110, 0b1001)))


if __name__ == "__main__":
    unittest.main()
