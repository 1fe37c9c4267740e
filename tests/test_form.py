"""Tests of the package's form: what can be seen of it without calling it."""

import ast
import pathlib
import re
import unittest

PACKAGE = pathlib.Path(__file__).resolve().parent.parent / "spreadpoints"
ALLOWED_NAMES = (
    "len range enumerate zip min max sum abs sorted reversed int str bool list tuple dict set frozenset "
    "isinstance ord repr any all divmod"
).split()
BARRED_NODES = (
    ast.Import, ast.With, ast.Match, ast.Delete, ast.Global, ast.Nonlocal, ast.Assert, ast.Yield, ast.YieldFrom,
    ast.AsyncFunctionDef, ast.Await, ast.Div, ast.SetComp, ast.DictComp, ast.GeneratorExp, ast.NamedExpr, ast.Starred,
)
BARRED_WORDS = re.compile(
    r"\b(type|typing|typing_extensions|enum|Enum|IntEnum|StrEnum|Flag|IntFlag|Generic|Protocol|ABC|ABCMeta"
    r"|namedtuple|NamedTuple|TypedDict|TYPE_CHECKING|abstractmethod)\b|dataclass|overload|contextmanager"
)


def package_files():
    return [path for path in sorted(PACKAGE.rglob("*")) if "__pycache__" not in path.parts and path.is_file()]


def package_texts():
    return [(path.name, path.read_bytes().decode("ascii")) for path in package_files()]


class Form(unittest.TestCase):
    def test_files_are_modules_with_plain_names(self):
        names = [name for name, text in package_texts()]
        self.assertIn("__init__.py", names)
        self.assertIn("spread.py", names)
        for name in names:
            self.assertRegex(name, r"\A[a-z0-9_]+\.py\Z")

    def test_signs_and_size(self):
        for name, text in package_texts():
            self.assertRegex(text, r"\A[ -~\n]*\Z", name)
            self.assertIsNone(BARRED_WORDS.search(text), name)
            lines = text.splitlines()
            self.assertLessEqual(len(lines), 400, name)
            self.assertLessEqual(max(len(line) for line in lines), 120, name)
            for node in ast.walk(ast.parse(text)):
                if isinstance(node, ast.FunctionDef):
                    self.assertLessEqual(node.end_lineno - node.lineno + 1, 40, node.name)

    def test_only_own_modules_are_imported(self):
        for name, text in package_texts():
            for node in ast.walk(ast.parse(text)):
                if isinstance(node, ast.ImportFrom):
                    self.assertEqual(node.level, 0, name)
                    self.assertTrue(node.module.startswith("spreadpoints."), name)

    def test_barred_forms_are_not_used(self):
        for name, text in package_texts():
            for node in ast.walk(ast.parse(text)):
                self.assertNotIsInstance(node, BARRED_NODES, name)

    def test_no_else_behind_a_loop(self):
        for name, text in package_texts():
            for node in ast.walk(ast.parse(text)):
                if isinstance(node, (ast.For, ast.While)):
                    self.assertEqual(node.orelse, [], name)

    def test_exponents_are_written(self):
        for name, text in package_texts():
            for node in ast.walk(ast.parse(text)):
                if isinstance(node, ast.BinOp) and isinstance(node.op, ast.Pow):
                    self.assertIsInstance(node.right, ast.Constant, name)

    def test_the_functions_import_nothing(self):
        for node in ast.walk(ast.parse((PACKAGE / "spread.py").read_text())):
            self.assertNotIsInstance(node, (ast.Import, ast.ImportFrom))

    def test_only_known_names_are_called(self):
        for name, text in package_texts():
            tree = ast.parse(text)
            known = list(ALLOWED_NAMES)
            for node in ast.walk(tree):
                if isinstance(node, (ast.FunctionDef, ast.ClassDef)):
                    known.append(node.name)
                if isinstance(node, ast.ImportFrom):
                    known.extend(alias.name for alias in node.names)
            for node in ast.walk(tree):
                if isinstance(node, ast.Call) and isinstance(node.func, ast.Name):
                    self.assertIn(node.func.id, known, name)


if __name__ == "__main__":
    unittest.main()
