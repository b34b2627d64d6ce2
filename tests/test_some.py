import unittest

from plain import (
    all_rows,
    check_form,
    check_nothing_kept,
    check_row_refusals,
    check_row_unchanged,
    drawn_row,
    drawn_rows,
    plain_least,
)
from remaindersums.sets import free, just, some


def plain_some(n, row):
    return plain_least(n, row, lambda count: True)


class Ordinary(unittest.TestCase):
    def test_written_out(self):
        # 1 + 2 + 4, at the places 0, 1 and 3
        self.assertEqual(some(7, [1, 2, 3, 4, 5]), [3, 0b1011])
        # 3 + 5, at the places 1 and 2
        self.assertEqual(some(8, [4, 3, 5, 1]), [2, 0b110])
        # 6 + 5 + 199, at the places 0, 1 and 3
        self.assertEqual(some(10, [6, 5, 8, 199]), [3, 0b1011])
        # no sum of 1, 2 and 4 is divided by 8
        self.assertEqual(some(8, [1, 2, 4]), [-5])

    def test_all_rows_of_small_n(self):
        for n in range(1, 5):
            for row in all_rows(n):
                self.assertEqual(some(n, row), plain_some(n, row), (n, row))

    def test_every_n_and_m(self):
        for n in range(1, 65):
            for m in range(1, 14):
                for row in drawn_rows(n, m):
                    self.assertEqual(some(n, row), plain_some(n, row), (n, row))

    def test_what_is_drawn_has_both_answers(self):
        for n in range(3, 65):
            answers = [some(n, row) for m in range(1, 14) for row in drawn_rows(n, m)]
            self.assertIn([-5], answers, n)
            self.assertGreater(max(answer[0] for answer in answers), 2, n)

    def test_more_than_13(self):
        for m in (14, 15, 16):
            for n in (13, 37, 64):
                for row in drawn_rows(n, m):
                    self.assertEqual(some(n, row), plain_some(n, row), (n, row))


class Edges(unittest.TestCase):
    def test_n_of_1_has_the_first_place(self):
        for m in range(1, 25):
            self.assertEqual(some(1, drawn_row(m, 256, m)), [1, 1], m)

    def test_one_number(self):
        for n in range(1, 65):
            for x in range(256):
                self.assertEqual(some(n, [x]), [1, 1] if x % n == 0 else [-5], (n, x))

    def test_a_number_that_is_0(self):
        for n in range(2, 65):
            self.assertEqual(some(n, [0]), [1, 0b1], n)
            self.assertEqual(some(n, [1, 0]), [1, 0b10], n)
            self.assertEqual(some(n, [0, 0, 0]), [1, 0b1], n)
        self.assertEqual(some(9, [1, 1, 0, 1]), [1, 0b100])

    def test_a_number_that_n_divides(self):
        for n in range(2, 65):
            self.assertEqual(some(n, [1, n]), [1, 0b10], n)
            self.assertEqual(some(n, [1, 255 // n * n, n]), [1, 0b10], n)
        self.assertEqual(some(64, [63, 128, 64]), [1, 0b10])
        self.assertEqual(some(51, [1, 2, 255]), [1, 0b100])

    def test_numbers_above_n(self):
        # 200 and 255 leave 2 and 3 modulo 9; 100 leaves 1, 17 leaves 8
        self.assertEqual(some(9, [200, 255]), [-5])
        self.assertEqual(some(9, [200, 100, 17]), [2, 0b110])
        # the sums are above 255: 254 + 194 is 7 times 64, 255 and 193 are at the places 0 and 3
        self.assertEqual(some(64, [255, 254, 194, 193]), [2, 0b110])
        self.assertEqual(some(64, [255] * 13), [-5])

    def test_only_remainders_matter(self):
        for n in range(1, 65):
            for row in drawn_rows(n, 9):
                self.assertEqual(some(n, row), some(n, [x % n for x in row]), (n, row))

    def test_equal_numbers(self):
        # 4 modulo 6 needs three; 5 modulo 7 needs seven; 4 modulo 64 needs sixteen
        self.assertEqual(some(6, [4, 4, 4, 4]), [3, 0b111])
        self.assertEqual(some(6, [4, 4]), [-5])
        self.assertEqual(some(7, [5] * 6), [-5])
        self.assertEqual(some(7, [5] * 7), [7, 0b1111111])
        self.assertEqual(some(7, [5] * 13), [7, 0b1111111])
        self.assertEqual(some(64, [4] * 15), [-5])
        self.assertEqual(some(64, [4] * 16), [16, 0xFFFF])

    def test_13_numbers(self):
        self.assertEqual(some(13, [1] * 13), [13, 0b1111111111111])
        self.assertEqual(some(14, [1] * 13), [-5])
        self.assertEqual(some(64, [1] * 13), [-5])
        self.assertEqual(some(64, [1] * 12 + [52]), [13, 0b1111111111111])
        self.assertEqual(some(64, [1] * 12 + [64]), [1, 0b1000000000000])
        self.assertEqual(some(2, [1] * 13), [2, 0b11])

    def test_up_to_24_numbers(self):
        for m in range(1, 25):
            self.assertEqual(some(m, [1] * m), [m, (1 << m) - 1], m)
            self.assertEqual(some(m + 1, [1] * m), [-5], m)
            self.assertEqual(some(64, [65] * (m - 1) + [65 - m]), [m, (1 << m) - 1], m)
            self.assertEqual(some(m, [0] * m), [1, 1], m)

    def test_n_numbers_always_have_some(self):
        for n in range(1, 25):
            for row in drawn_rows(n, n):
                count, mask = some(n, row)
                places = [place for place in range(n) if mask >> place & 1]
                self.assertEqual(len(places), count, (n, row))
                self.assertGreater(count, 0, (n, row))
                self.assertLess(mask, 1 << n, (n, row))
                self.assertEqual(sum(row[place] for place in places) % n, 0, (n, row))

    def test_the_least_of_several(self):
        # 1 + 2 + 3 comes before the 6 by itself, though it has more places
        self.assertEqual(some(6, [1, 2, 3, 6]), [3, 0b111])
        self.assertEqual(some(6, [6, 1, 2, 3]), [1, 0b1])
        # 1 + 1 + 1 + 2 + 5 comes before 5 + 5 and before the 10
        self.assertEqual(some(10, [1, 1, 1, 2, 5, 5, 10]), [5, 0b11111])
        # 4 + 1 at the places 0 and 2 before 3 + 2 at 1 and 3, and before 4 + 1 at 0 and 4
        self.assertEqual(some(5, [4, 3, 1, 2, 1]), [2, 0b101])
        # 1 + 5 + 3 with the 5 at the place 1, before that with the 5 at the place 2
        self.assertEqual(some(9, [1, 5, 5, 3]), [3, 0b1011])

    def test_none(self):
        self.assertEqual(some(2, [1]), [-5])
        self.assertEqual(some(3, [1, 1]), [-5])
        self.assertEqual(some(4, [1, 1, 1]), [-5])
        self.assertEqual(some(64, [1, 2, 4, 8, 16, 32]), [-5])
        self.assertEqual(some(63, [1, 2, 4, 8, 16, 32]), [6, 0b111111])
        self.assertEqual(some(16, [2, 4, 8]), [-5])


class Refused(unittest.TestCase):
    def test_n_and_row(self):
        check_row_refusals(self, some)

    def test_the_ends_are_not(self):
        for row in ([0], [0] * 24):
            self.assertEqual(some(1, row), [1, 1])
            self.assertEqual(some(64, row), [1, 1])


class Form(unittest.TestCase):
    def test_answers(self):
        for n, row in ((1, [0]), (7, [7]), (6, [1, 2, 3]), (64, [64] * 13), (24, [1] * 24)):
            check_form(self, some(n, row), 2)
        for n, row in ((2, [1]), (64, [255] * 13)):
            check_form(self, some(n, row), 1)

    def test_row_is_as_it_was(self):
        check_row_unchanged(self, some)


class NothingKept(unittest.TestCase):
    def test_asked_again(self):
        calls = [(7, [1, 2, 4]), (0, [1]), (8, [1, 2, 4]), (7, []), (1, [3]), (64, [1] * 25), (13, [1] * 13)]
        check_nothing_kept(self, some, calls, lambda: (just(2, [1, 1, 1]), free(5), some(3, [2, 2, 2])))


if __name__ == "__main__":
    unittest.main()
