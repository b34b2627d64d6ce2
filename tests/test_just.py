import unittest

from plain import (
    all_rows,
    check_form,
    check_nothing_kept,
    check_row_refusals,
    check_row_unchanged,
    drawn_row,
    drawn_rows,
    plain_least,
)
from remaindersums.sets import free, just, some


def plain_just(n, row):
    return plain_least(n, row, lambda count: count == n)


class Ordinary(unittest.TestCase):
    def test_written_out(self):
        # 1 + 2 + 3, at the places 0, 1 and 2
        self.assertEqual(just(3, [1, 2, 3, 4, 5]), [3, 0b111])
        # 1 + 4 + 7, at the places 0, 1 and 3
        self.assertEqual(just(3, [1, 4, 2, 7]), [3, 0b1011])
        # 3 + 5, at the places 0 and 2
        self.assertEqual(just(2, [3, 4, 5]), [2, 0b101])
        # 1 + 2 + 2 + 3, at the places 0, 2, 3 and 4
        self.assertEqual(just(4, [1, 1, 2, 2, 3]), [4, 0b11101])
        # 0 + 0 + 1 leaves 1, and 0 + 1 + 1 leaves 2
        self.assertEqual(just(3, [0, 0, 1, 1]), [-5])

    def test_all_rows_of_small_n(self):
        for n in range(1, 5):
            for row in all_rows(n):
                self.assertEqual(just(n, row), plain_just(n, row), (n, row))

    def test_every_n_and_m(self):
        for n in range(1, 65):
            for m in range(1, 14):
                for row in drawn_rows(n, m):
                    self.assertEqual(just(n, row), plain_just(n, row), (n, row))

    def test_n_up_to_m(self):
        for m in range(2, 14):
            for n in range(2, m + 1):
                for seed in range(12):
                    row = drawn_row(m, 256, 100 * seed + n)
                    self.assertEqual(just(n, row), plain_just(n, row), (n, row))

    def test_what_is_drawn_has_both_answers(self):
        for n in range(2, 14):
            answers = [just(n, row)[0] for m in range(n, 14) for row in drawn_rows(n, m)]
            self.assertEqual(sorted(set(answers)), [-5, n], n)

    def test_more_than_13(self):
        for m in (14, 15, 16):
            for n in (2, 7, 8, m - 1, m):
                for row in drawn_rows(n, m):
                    self.assertEqual(just(n, row), plain_just(n, row), (n, row))


class Edges(unittest.TestCase):
    def test_n_of_1_has_the_first_place(self):
        for m in range(1, 25):
            self.assertEqual(just(1, drawn_row(m, 256, m)), [1, 1], m)

    def test_one_number(self):
        for x in (0, 1, 2, 64, 255):
            self.assertEqual(just(1, [x]), [1, 1], x)
            for n in range(2, 65):
                self.assertEqual(just(n, [x]), [-5], (n, x))

    def test_n_above_the_length(self):
        for m in range(1, 25):
            for n in range(m + 1, 65):
                self.assertEqual(just(n, [0] * m), [-5], (n, m))
        self.assertEqual(just(4, [4, 4, 4]), [-5])
        self.assertEqual(just(64, [64] * 13), [-5])

    def test_n_as_large_as_the_length(self):
        for n in range(1, 25):
            self.assertEqual(just(n, [3] * n), [n, (1 << n) - 1], n)
            self.assertEqual(just(n, [0] * (n - 1) + [n]), [n, (1 << n) - 1], n)
        for n in range(2, 25):
            self.assertEqual(just(n, [3] * (n - 1) + [4]), [-5], n)
        # 1 + 2 + 3, 1 + 2 + 4
        self.assertEqual(just(3, [1, 2, 3]), [3, 0b111])
        self.assertEqual(just(3, [1, 2, 4]), [-5])

    def test_2_n_less_1_numbers_always_have_n(self):
        for n in range(1, 13):
            for row in drawn_rows(n, 2 * n - 1):
                count, mask = just(n, row)
                places = [place for place in range(2 * n - 1) if mask >> place & 1]
                self.assertEqual((count, len(places)), (n, n), (n, row))
                self.assertLess(mask, 1 << 2 * n - 1, (n, row))
                self.assertEqual(sum(row[place] for place in places) % n, 0, (n, row))
        for n in range(1, 8):
            for seed in range(20):
                row = drawn_row(2 * n - 1, 256, seed)
                self.assertEqual(just(n, row), plain_just(n, row), (n, row))

    def test_one_fewer_may_have_none(self):
        for n in range(2, 14):
            row = [0] * (n - 1) + [1] * (n - 1)
            self.assertEqual(just(n, row), [-5], n)
            self.assertEqual(just(n, row[1:] + [n + 1]), [n, (1 << n) - 1 << n - 2], n)

    def test_a_number_that_is_0(self):
        self.assertEqual(just(2, [0]), [-5])
        self.assertEqual(just(2, [0, 0]), [2, 0b11])
        self.assertEqual(just(2, [1, 0, 0]), [2, 0b110])
        self.assertEqual(just(3, [0, 1, 0, 1, 0]), [3, 0b10101])

    def test_numbers_that_n_divides(self):
        # 6 and 9 by themselves are too few for 3; with 255 they are enough
        self.assertEqual(just(3, [6, 9]), [-5])
        self.assertEqual(just(3, [6, 1, 9, 255]), [3, 0b1101])
        for n in range(1, 25):
            self.assertEqual(just(n, [n] * 24), [n, (1 << n) - 1], n)

    def test_numbers_above_n(self):
        # 253 + 254 + 255 is 762, 254 times 3
        self.assertEqual(just(3, [255, 254, 253]), [3, 0b111])
        self.assertEqual(just(3, [255, 254, 254]), [-5])
        for n in range(1, 14):
            for row in drawn_rows(n, 13):
                self.assertEqual(just(n, row), just(n, [x % n for x in row]), (n, row))

    def test_equal_numbers(self):
        for x in (0, 1, 5, 255):
            for n in range(1, 14):
                self.assertEqual(just(n, [x] * 13), [n, (1 << n) - 1], (n, x))
            self.assertEqual(just(14, [x] * 13), [-5], x)

    def test_13_numbers(self):
        self.assertEqual(just(13, list(range(13))), [13, 0b1111111111111])
        self.assertEqual(just(13, list(range(1, 13)) + [12]), [-5])
        self.assertEqual(just(12, [0] + [1] * 12), [12, 0b1111111111110])
        self.assertEqual(just(7, [0] * 6 + [1] * 6 + [0]), [7, 0b1000000111111])

    def test_the_least_of_several(self):
        # 1 + 3 at the places 0 and 1 before 2 + 4 at 2 and 3
        self.assertEqual(just(2, [1, 3, 2, 4]), [2, 0b11])
        # 2 + 4 at 1 and 2 before 1 + 1 at 0 and 3
        self.assertEqual(just(2, [1, 2, 4, 1]), [2, 0b110])
        # 1 + 1 + 1 at 0, 2 and 3 is before 2 + 2 + 2 at 1, 4 and 5
        self.assertEqual(just(3, [1, 2, 1, 1, 2, 2]), [3, 0b1101])

    def test_some_but_not_just(self):
        for n, row, found in (
            (2, [2], [1, 0b1]),
            (2, [1, 2], [1, 0b10]),
            (3, [1, 2], [2, 0b11]),
            (3, [0, 0, 1, 1], [1, 0b1]),
            (4, [1, 1, 2], [3, 0b111]),
            (5, [1, 1, 3, 7, 9], [3, 0b111]),
            (64, [60, 1, 1, 1, 1], [5, 0b11111]),
        ):
            self.assertEqual(some(n, row), found, (n, row))
            self.assertEqual(just(n, row), [-5], (n, row))

    def test_just_is_never_before_some(self):
        for n in range(1, 14):
            for row in drawn_rows(n, 13):
                if just(n, row) != [-5]:
                    self.assertLessEqual(some(n, row)[1], just(n, row)[1], (n, row))


class Refused(unittest.TestCase):
    def test_n_and_row(self):
        check_row_refusals(self, just)

    def test_the_ends_are_not(self):
        self.assertEqual(just(1, [0]), [1, 1])
        self.assertEqual(just(1, [0] * 24), [1, 1])
        self.assertEqual(just(24, [0] * 24), [24, (1 << 24) - 1])
        self.assertEqual(just(64, [0]), [-5])
        self.assertEqual(just(64, [0] * 24), [-5])


class Form(unittest.TestCase):
    def test_answers(self):
        for n, row in ((1, [0]), (2, [1, 1]), (3, [1, 2, 3]), (13, [255] * 13), (24, [1] * 24)):
            check_form(self, just(n, row), 2)
        for n, row in ((2, [1]), (64, [64] * 13)):
            check_form(self, just(n, row), 1)

    def test_row_is_as_it_was(self):
        check_row_unchanged(self, just)


class NothingKept(unittest.TestCase):
    def test_asked_again(self):
        calls = [(3, [1, 2, 3]), (0, [1]), (3, [1, 2, 4]), (7, []), (1, [3]), (64, [1] * 25), (13, [1] * 13)]
        check_nothing_kept(self, just, calls, lambda: (some(2, [1, 1, 1]), free(5), just(3, [2, 2, 2])))


if __name__ == "__main__":
    unittest.main()
