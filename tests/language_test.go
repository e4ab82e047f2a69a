package tests

import (
	"bytes"
	"go/ast"
	"go/format"
	"go/parser"
	"go/token"
	"os"
	"path/filepath"
	"slices"
	"strings"
	"testing"
)

const longestFunction = 60

// allowedImports: what ../shared/LANGUAGE.md lets the program import.
var allowedImports = []string{"bytes", "cmp", "container/heap", "errors", "iter", "maps", "math", "math/bits", "slices", "sort", "strconv", "strings", "sync", "sync/atomic", "unicode", "unicode/utf8"}

func TestProgramKeepsToItsLanguage(t *testing.T) {
	paths, err := filepath.Glob("../impl/*")
	if err != nil || len(paths) == 0 {
		t.Fatal("no program", err)
	}
	for _, path := range paths {
		if !strings.HasSuffix(path, ".go") {
			t.Errorf("%s is no Go file", path)
			continue
		}
		source, err := os.ReadFile(path)
		if err != nil {
			t.Fatal(err)
		}
		lookAtFile(t, path, source)
	}
}

func lookAtFile(t *testing.T, path string, source []byte) {
	laid, err := format.Source(source)
	if err != nil || !bytes.Equal(laid, source) {
		t.Errorf("%s has not gofmt's layout", path)
	}
	if bytes.Contains(source, []byte("//go:")) {
		t.Errorf("%s has a //go: line", path)
	}
	positions := token.NewFileSet()
	file, err := parser.ParseFile(positions, path, source, parser.SkipObjectResolution)
	if err != nil {
		t.Fatal(err)
	}
	for _, i := range file.Imports {
		if !slices.Contains(allowedImports, strings.Trim(i.Path.Value, "\"")) {
			t.Errorf("%s imports %s", path, i.Path.Value)
		}
	}
	for _, d := range file.Decls {
		f, ok := d.(*ast.FuncDecl)
		if !ok {
			continue
		}
		if lines := positions.Position(f.End()).Line - positions.Position(f.Pos()).Line + 1; lines > longestFunction {
			t.Errorf("%s: %s has %d lines", path, f.Name.Name, lines)
		}
	}
}
