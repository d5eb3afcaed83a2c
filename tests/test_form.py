"""The package's form: what it draws on, what it names, and how large its parts are."""

import ast
import builtins
import io
import os
import unittest
from contextlib import redirect_stdout

from flagwork import flags

FOLDER = os.path.dirname(os.path.abspath(flags.__file__))
# Python's names that LANGUAGE.md's L8 lists, but for print, chr and the error classes.
OWN_NAMES = {
    "len", "range", "enumerate", "zip", "min", "max", "sum", "abs", "sorted", "reversed", "int", "str", "bool",
    "list", "tuple", "dict", "set", "frozenset", "isinstance", "ord", "repr", "any", "all", "divmod",
}
PYTHONS_NAMES = set(dir(builtins))
# The calls of DOC.md's interface, and what each is handed.
CALLS = {
    "do": ["op", "width", "a", "b", "c", "flags"],
    "when": ["flags", "cond"],
    "byte": ["flags"],
    "unbyte": ["flags", "b"],
}


def sources():
    for name in sorted(os.listdir(FOLDER)):
        if name != "__pycache__":
            with open(os.path.join(FOLDER, name), encoding="utf-8") as source:
                yield name, source.read()


class Form(unittest.TestCase):
    def test_only_the_packages_own_modules_are_imported(self):
        for name, text in sources():
            for node in ast.walk(ast.parse(text)):
                self.assertNotIsInstance(node, ast.Import, name)
                if isinstance(node, ast.ImportFrom):
                    self.assertTrue(node.module.startswith("flagwork."), name)
                    self.assertEqual(node.level, 0, name)

    def test_no_name_of_pythons_own_but_a_few(self):
        for name, text in sources():
            for node in ast.walk(ast.parse(text)):
                if isinstance(node, ast.Name) and node.id in PYTHONS_NAMES:
                    self.assertIn(node.id, OWN_NAMES, name)
                if isinstance(node, (ast.arg, ast.FunctionDef)):
                    called = node.arg if isinstance(node, ast.arg) else node.name
                    self.assertNotIn(called, PYTHONS_NAMES, name)

    def test_sizes_and_signs(self):
        for name, text in sources():
            self.assertTrue(name.endswith(".py"), name)
            self.assertTrue(all(sign == "\n" or " " <= sign <= "~" for sign in text), name)
            rows = text.split("\n")
            self.assertLessEqual(len(rows), 399, name)
            self.assertLessEqual(max(len(row) for row in rows), 120, name)
            for node in ast.walk(ast.parse(text)):
                if isinstance(node, ast.FunctionDef):
                    self.assertLessEqual(node.end_lineno - node.lineno + 1, 40, node.name)

    def test_each_call_is_a_plain_def_of_its_file(self):
        for call, names in CALLS.items():
            tops = [
                (name, node) for name, text in sources() for node in ast.parse(text).body
                if isinstance(node, (ast.FunctionDef, ast.ClassDef)) and node.name == call
            ]
            self.assertEqual([name for name, node in tops], ["flags.py"], call)
            given = tops[0][1].args
            self.assertEqual([one.arg for one in given.args], names, call)
            self.assertEqual(given.defaults, [], call)

    def test_nothing_is_printed(self):
        printed = io.StringIO()
        with redirect_stdout(printed):
            for op in range(46):
                for width in (8, 16, 32, 64):
                    flags.do(op, width, 9, 3, 1, 0)
            flags.when(0, op)
            flags.byte(op)
            flags.unbyte(0, op)
        self.assertEqual(printed.getvalue(), "")


if __name__ == "__main__":
    unittest.main()
