"""What is promised of every call: one list, nothing kept, nothing else done."""

import ast
import builtins
import contextlib
import inspect
import io
import itertools
import pathlib
import unittest

from fourbars import linkage

ARGUMENTS = {
    "kind": ["g", "a", "c", "r"],
    "full": ["g", "a", "c", "r", "pin"],
    "range_of": ["g", "a", "c", "r", "pin"],
    "line": ["g", "a", "c", "r", "pin", "folded", "other"],
    "circuits": ["g", "a", "c", "r"],
    "circuit": ["g", "a", "c", "r", "p", "q", "s"],
    "drive": ["g", "a", "c", "r", "p", "q", "s", "left", "p2", "q2"],
    "swing": ["g", "a", "c", "r", "which", "m"],
}
# Of each call: rows that are answered, and rows that are refused.
CALLS = {
    "kind": [(10, 2, 3, 4), (9, 2, 3, 4), (4, 1, 3, 5), (1, 1, 1, 1), (0, 1, 1, 1), (9223372036854775807,) * 4],
    "full": [(4, 1, 3, 5, 0), (4, 1, 3, 5, 2), (10, 2, 3, 4, 0), (4, 1, 3, 5, 4), (9223372036854775807,) * 5],
    "range_of": [(4, 1, 3, 5, 0), (4, 1, 3, 5, 2), (10, 2, 3, 4, 0), (4, 1, 3, 5, 4), (9223372036854775807,) * 5],
    "line": [
        (4, 1, 3, 5, 1, 0, 0), (4, 1, 3, 5, 2, 0, 1), (1, 1, 2, 2, 0, 1, 1), (10, 2, 3, 4, 0, 0, 1),
        (4, 1, 3, 5, 0, 0, 0), (9223372036854775807,) * 7,
    ],
    "circuits": [(10, 2, 3, 4), (9, 2, 3, 4), (4, 1, 3, 5), (0, 1, 1, 1), (9223372036854775807,) * 4],
    "circuit": [
        (4, 1, 3, 5, 1, 2, 1), (4, 1, 3, 5, -1, 2, 0), (4, 3, 1, 4, 1, 1, 0), (4, 3, 1, 4, 99, -99, 0),
        (2, 2, 3, 3, 0, 1, 0), (10, 2, 3, 4, 1, 1, 1), (4, 1, 3, 5, 0, 0, 0), (9223372036854775807,) * 7,
    ],
    "drive": [
        (4, 1, 3, 5, 1, 2, 1, 1, 2, 1), (4, 1, 3, 5, 1, 2, 0, 0, -2, 1), (4, 3, 1, 4, 1, 2, 1, 1, 1, 1),
        (5, 3, 1, 4, 1, 1, 0, 1, 1, 2), (5, 3, 1, 4, 1, 2, 0, 1, 1, 1), (4, 1, 2, 3, 9, 1, 0, 1, -9, 1),
        (10, 2, 3, 4, 1, 1, 1, 0, 1, 2), (4, 1, 3, 5, 1, 1, 0, 1, 0, 0), (9223372036854775807,) * 10,
    ],
    "swing": [
        (4, 1, 3, 5, 0, 8), (4, 1, 3, 5, 1, 8), (4, 1, 3, 5, 0, 1), (20, 14, 51, 51, 0, 2), (1, 3, 4, 5, 0, 1),
        (10, 2, 3, 4, 1, 1), (4, 1, 3, 5, 0, 0), (9223372036854775807,) * 6,
    ],
}
# Of each call: how many numbers come with the one that is answered first.
TOLD_WITH = {
    "kind": {number: 0 for number in range(8)},
    "full": {0: 0, 1: 0},
    "range_of": {0: 4},
    "line": {0: 0, 1: 2},
    "circuits": {0: 0, 1: 0, 2: 0},
    "circuit": {0: 0, 1: 0},
    "drive": {0: 0, 1: 0},
    "swing": {0: 1},
}
LISTED = ("range_of", "line", "swing")
BUILT_IN = set(
    "len range enumerate zip min max sum abs sorted reversed int str bool list tuple dict set frozenset isinstance"
    " ord repr any all divmod Exception ValueError TypeError KeyError IndexError LookupError ZeroDivisionError"
    " ArithmeticError OverflowError RuntimeError NotImplementedError AttributeError StopIteration".split()
)
NODES_RULED_OUT = (
    ast.With, ast.Delete, ast.Global, ast.Nonlocal, ast.Assert, ast.Yield, ast.YieldFrom, ast.Await, ast.Match,
    ast.AsyncFunctionDef, ast.Import, ast.SetComp, ast.DictComp, ast.GeneratorExp, ast.NamedExpr, ast.Starred, ast.Div,
)
PACKAGE = pathlib.Path(linkage.__file__).parent


def every_call():
    for name, rows in CALLS.items():
        for row in rows:
            yield getattr(linkage, name), row


def package_files():
    return sorted(path for path in PACKAGE.rglob("*") if path.is_file() and "__pycache__" not in path.parts)


def names_bound(tree):
    for node in ast.walk(tree):
        if isinstance(node, (ast.FunctionDef, ast.ClassDef)):
            yield node.name
        elif isinstance(node, ast.arg):
            yield node.arg
        elif isinstance(node, ast.alias):
            yield node.asname or node.name
        elif isinstance(node, ast.Name) and isinstance(node.ctx, ast.Store):
            yield node.id


class Answers(unittest.TestCase):
    def test_arguments(self):
        for name, arguments in ARGUMENTS.items():
            function = getattr(linkage, name)
            self.assertTrue(inspect.isfunction(function))
            self.assertEqual(function.__module__, "fourbars.linkage")
            parameters = inspect.signature(function).parameters
            self.assertEqual(list(parameters), arguments)
            for parameter in parameters.values():
                self.assertIs(parameter.default, inspect.Parameter.empty)

    def test_one_list_of_whole_numbers(self):
        for function, row in every_call():
            answer = function(*row)
            self.assertIs(type(answer), list, row)
            self.assertEqual({type(number) for number in answer}, {int}, row)

    def test_how_many_numbers(self):
        for function, row in every_call():
            name = function.__name__
            first, *rest = function(*row)
            if first < 0:
                self.assertEqual(rest, [], row)
            elif name in LISTED:
                self.assertEqual(rest[0], TOLD_WITH[name][first], row)
                self.assertEqual(len(rest[1:]), rest[0], row)
            else:
                self.assertIn(first, TOLD_WITH[name], row)
                self.assertEqual(rest, [], row)

    def test_nothing_kept(self):
        before = [function(*row) for function, row in every_call()]
        for function, row in reversed(list(every_call())):
            function(*row).append("changed by the caller")
        after = [function(*row) for function, row in every_call()]
        self.assertEqual(after, before)

    def test_each_by_itself(self):
        calls = list(every_call())
        alone = {(function.__name__, row): function(*row) for function, row in calls}
        for first, second in itertools.product(calls, repeat=2):
            first[0](*first[1])
            self.assertEqual(second[0](*second[1]), alone[second[0].__name__, second[1]])

    def test_nothing_printed(self):
        out, err = io.StringIO(), io.StringIO()
        with contextlib.redirect_stdout(out), contextlib.redirect_stderr(err):
            for function, row in every_call():
                function(*row)
        self.assertEqual((out.getvalue(), err.getvalue()), ("", ""))


class Files(unittest.TestCase):
    """The part of LANGUAGE.md that can be read off the package's files."""

    def trees(self):
        for path in package_files():
            yield path, ast.parse(path.read_text(encoding="utf-8"), path.name)

    def test_only_plain_files(self):
        names = [path.relative_to(PACKAGE).as_posix() for path in package_files()]
        self.assertIn("__init__.py", names)
        self.assertIn("linkage.py", names)
        for name in names:
            self.assertRegex(name, r"^[a-z0-9_]+\.py$")

    def test_imports_from_the_package_alone(self):
        for path, tree in self.trees():
            for node in ast.walk(tree):
                if isinstance(node, ast.ImportFrom):
                    self.assertIn(node, tree.body, path)
                    self.assertEqual(node.level, 0, path)
                    self.assertTrue(node.module.startswith("fourbars."), node.module)

    def test_statements_and_names(self):
        for path, tree in self.trees():
            bound = set(names_bound(tree))
            for name in bound:
                self.assertRegex(name, r"^[A-Za-z][A-Za-z0-9_]*$", path)
                self.assertNotIn(name, dir(builtins), path)
            for node in ast.walk(tree):
                self.assertNotIsInstance(node, NODES_RULED_OUT, path)
                if isinstance(node, ast.Constant):
                    self.assertNotIsInstance(node.value, (float, complex, bytes), path)
                if isinstance(node, ast.Name):
                    self.assertIn(node.id, bound | BUILT_IN | {"__name__"}, path)

    def test_size_and_signs(self):
        for path, tree in self.trees():
            text = path.read_text(encoding="utf-8")
            self.assertRegex(text, r"\A[ -~\n]*\Z", path)
            self.assertNotRegex(text, r"\btype\b", path)
            self.assertLessEqual(len(text.splitlines()), 399, path)
            self.assertLessEqual(max(len(line) for line in text.splitlines()), 120, path)
            for node in ast.walk(tree):
                if isinstance(node, ast.FunctionDef):
                    self.assertLessEqual(node.end_lineno - node.lineno + 1, 40, node.name)


if __name__ == "__main__":
    unittest.main()
