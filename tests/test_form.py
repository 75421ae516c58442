"""What the package's files hold: the promises that no answer of a call can show."""

import ast
import inspect
import pathlib
import re
import unittest

from mendmarks import bytefield

PACKAGE = pathlib.Path(__file__).resolve().parent.parent / "mendmarks"
PARAMETERS = {
    "mul": ["a", "b"],
    "div": ["a", "b"],
    "power": ["a", "e"],
    "value": ["x", "row"],
    "right": ["r", "row"],
}
OUTSIDE_NAMES = ("print", "open", "input", "eval", "exec", "compile", "globals", "sys", "os")


def files():
    return sorted(path for path in PACKAGE.rglob("*") if path.is_file() and "__pycache__" not in path.parts)


def trees():
    return [(path.name, ast.parse(path.read_text(encoding="utf-8"))) for path in files()]


class Form(unittest.TestCase):
    def test_the_files(self):
        names = [path.name for path in files()]
        self.assertIn("__init__.py", names)
        self.assertIn("bytefield.py", names)
        for name in names:
            self.assertRegex(name, r"^[a-z0-9_]+\.py$")

    def test_the_calls_and_their_parameters(self):
        for name, wanted in PARAMETERS.items():
            parameters = inspect.signature(getattr(bytefield, name)).parameters
            self.assertEqual(list(parameters), wanted, name)

    def test_nothing_is_imported(self):
        for name, tree in trees():
            for node in ast.walk(tree):
                self.assertNotIsInstance(node, (ast.Import, ast.ImportFrom), name)

    def test_nothing_is_printed_or_read(self):
        for name, tree in trees():
            for node in ast.walk(tree):
                if isinstance(node, ast.Name):
                    self.assertNotIn(node.id, OUTSIDE_NAMES, name)
                    self.assertFalse(node.id.startswith("_"), (name, node.id))

    def test_nothing_is_kept(self):
        for name, tree in trees():
            for node in ast.walk(tree):
                self.assertNotIsInstance(node, (ast.Global, ast.Nonlocal), name)
                if isinstance(node, ast.arguments):
                    self.assertEqual(node.defaults, [], name)
            for node in tree.body:
                if isinstance(node, ast.Assign):
                    self.assertNotIsInstance(node.value, (ast.List, ast.Dict, ast.Set, ast.Call), name)

    def test_lines_and_signs(self):
        for path in files():
            text = path.read_text(encoding="utf-8")
            self.assertIsNone(re.search("[^ -~\n]", text), path.name)
            lines = text.splitlines()
            self.assertLessEqual(len(lines), 400, path.name)
            for line in lines:
                self.assertLessEqual(len(line), 120, (path.name, line))

    def test_functions_are_short(self):
        for name, tree in trees():
            for node in ast.walk(tree):
                if isinstance(node, ast.FunctionDef):
                    self.assertLessEqual(node.end_lineno - node.lineno + 1, 40, (name, node.name))


if __name__ == "__main__":
    unittest.main()
