package tests

import (
	"bytes"
	"go/ast"
	"go/format"
	"go/parser"
	"go/token"
	"os"
	"path/filepath"
	"slices"
	"strconv"
	"strings"
	"testing"
)

var allowedImports = strings.Fields("bytes cmp container/heap errors iter maps math math/bits slices sort strconv strings sync sync/atomic unicode unicode/utf8")

// longest is how many lines a function has at most.
const longest = 60

// TestLanguage holds the program against what the language page says and a text shows.
func TestLanguage(t *testing.T) {
	files, err := filepath.Glob("../impl/*.go")
	if err != nil || len(files) != 12 {
		t.Fatalf("not a file a layer: %v, %v", files, err)
	}
	for _, path := range files {
		text, err := os.ReadFile(path)
		if err != nil {
			t.Fatal(err)
		}
		if laid, err := format.Source(text); err != nil || !bytes.Equal(laid, text) {
			t.Errorf("%s: not gofmt's layout", path)
		}
		if bytes.Contains(text, []byte("//go:")) || bytes.Contains(text, []byte("// +build")) {
			t.Errorf("%s: a //go: line or a build tag", path)
		}
		checkLanguage(t, path, text)
	}
}

func checkLanguage(t *testing.T, path string, text []byte) {
	set := token.NewFileSet()
	file, err := parser.ParseFile(set, path, text, parser.SkipObjectResolution)
	if err != nil {
		t.Fatal(err)
	}
	for _, i := range file.Imports {
		if name, _ := strconv.Unquote(i.Path.Value); !slices.Contains(allowedImports, name) {
			t.Errorf("%s imports %s", path, name)
		}
	}
	for _, d := range file.Decls {
		f, ok := d.(*ast.FuncDecl)
		if !ok {
			continue
		}
		if lines := set.Position(f.End()).Line - set.Position(f.Pos()).Line + 1; lines > longest {
			t.Errorf("%s: %s has %d lines", path, f.Name.Name, lines)
		}
	}
}
