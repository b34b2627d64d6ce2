"""What the document says of the whole package: it prints, reads and imports nothing."""
import ast
import contextlib
import io
import pathlib
import unittest

import remaindersums
from remaindersums.sets import free, just, often, some, step, still, sums, two

FOLDER = pathlib.Path(remaindersums.__file__).parent
FILES = sorted(FOLDER.rglob("*.py"))
OUTSIDE = {"print", "open", "input", "eval", "exec", "compile", "__import__", "breakpoint"}


class Source(unittest.TestCase):
    def test_files(self):
        names = [path.name for path in FILES]
        self.assertIn("__init__.py", names)
        self.assertIn("sets.py", names)
        others = [path for path in FOLDER.rglob("*") if path.is_file() and path.suffix not in (".py", ".pyc")]
        self.assertEqual(others, [])

    def test_nothing_from_outside(self):
        for path in FILES:
            for node in ast.walk(ast.parse(path.read_text(encoding="ascii"))):
                self.assertNotIsInstance(node, ast.Import, path)
                if isinstance(node, ast.ImportFrom):
                    self.assertEqual((node.level, (node.module or "").split(".")[0]), (0, "remaindersums"), path)
                if isinstance(node, ast.Name):
                    self.assertNotIn(node.id, OUTSIDE, path)

    def test_sizes(self):
        for path in FILES:
            text = path.read_text(encoding="ascii")
            lines = text.splitlines()
            self.assertLessEqual(len(lines), 400, path)
            self.assertLessEqual(max(len(line) for line in lines), 120, path)
            self.assertNotIn("\t", text, path)
            for node in ast.walk(ast.parse(text)):
                if isinstance(node, ast.FunctionDef):
                    self.assertLessEqual(node.end_lineno - node.lineno + 1, 40, (path, node.name))

    def test_nothing_printed(self):
        out, err = io.StringIO(), io.StringIO()
        with contextlib.redirect_stdout(out), contextlib.redirect_stderr(err):
            sums(7, 5, 9)
            sums(0, 0, 0)
            often(7, 5, 3)
            often(7, 5, -1)
            two(7, 5)
            two(0, 0)
            still(7, 5)
            still(0, 0)
            step(7, 5)
            step(7, 1)
            step(0, 0)
            free(7)
            free(25)
            some(7, [1, 6])
            some(7, [1])
            some(7, [])
            just(2, [1, 1])
            just(2, [1, 2])
            just(2, [])
        self.assertEqual((out.getvalue(), err.getvalue()), ("", ""))


if __name__ == "__main__":
    unittest.main()
