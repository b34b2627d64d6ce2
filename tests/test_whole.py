"""What the document says of all eight functions together."""
import inspect
import unittest

from plain import FULL, check_form
from remaindersums import sets

# Each function with its arguments' names, how many numbers it answers, and calls: answered, then refused.
FUNCTIONS = (
    ("sums", ["n", "a", "b"], 2, [(7, 0b110, 0b1001), (64, FULL, 1)], [(65, 1, 1), (3, 8, 1), (3, 1, 8)]),
    ("often", ["n", "a", "k"], 2, [(7, 0b1010, 3), (12, 0b11, 1000)], [(0, 0, 0), (7, 1, 1001), (7, 1, -1)]),
    ("two", ["n", "a"], 2, [(7, 0b10110), (1, 1)], [(-1, 1), (2, 4)]),
    ("still", ["n", "a"], 2, [(6, 0b1001), (64, FULL)], [(66, 1), (1, 2)]),
    ("step", ["n", "a"], 1, [(7, 0b11001), (8, 0b1011)], [(0, 3), (5, 32)]),
    ("free", ["n"], 2, [(7,), (12,)], [(0,), (25,)]),
    ("some", ["n", "row"], 2, [(7, [1, 2, 3, 4]), (6, [4, 4, 4])], [(0, [1]), (7, []), (7, [1] * 25)]),
    ("just", ["n", "row"], 2, [(3, [1, 4, 2, 7]), (2, [1, 1])], [(65, [1]), (1, []), (1, [0] * 64)]),
)


def all_answers():
    return [getattr(sets, name)(*call) for name, names, length, good, bad in FUNCTIONS for call in good + bad]


def all_calls():
    return [call for name, names, length, good, bad in FUNCTIONS for call in good + bad]


class Whole(unittest.TestCase):
    def test_names_and_arguments(self):
        for name, names, length, good, bad in FUNCTIONS:
            given = inspect.signature(getattr(sets, name)).parameters.values()
            self.assertEqual([one.name for one in given], names, name)
            self.assertEqual({one.default for one in given}, {inspect.Parameter.empty}, name)
            for call in good + bad:
                asked = getattr(sets, name)
                self.assertEqual(asked(**dict(zip(names, call))), asked(*call), (name, call))

    def test_form(self):
        for name, names, length, good, bad in FUNCTIONS:
            for call in good:
                check_form(self, getattr(sets, name)(*call), length)
            for call in bad:
                self.assertEqual(getattr(sets, name)(*call), [-2], (name, call))
                check_form(self, getattr(sets, name)(*call), 1)

    def test_the_same_again(self):
        first = all_answers()
        kept = repr(first)
        for answer in first:
            answer.clear()
        self.assertEqual(repr(all_answers()), kept)
        for name, names, length, good, bad in reversed(FUNCTIONS):
            getattr(sets, name)(*bad[0])
            getattr(sets, name)(*good[-1])
        self.assertEqual(repr(all_answers()), kept)

    def test_what_is_handed_in_is_as_it_was(self):
        before = repr(all_calls())
        all_answers()
        self.assertEqual(repr(all_calls()), before)

    def test_the_module_is_as_it_was(self):
        def shown():
            return {name: repr(value) for name, value in vars(sets).items() if name != "__builtins__"}

        before = shown()
        all_answers()
        self.assertEqual(shown(), before)


if __name__ == "__main__":
    unittest.main()
