package tests

import (
	"bytes"
	"go/ast"
	"go/format"
	"go/parser"
	"go/token"
	"os"
	"path/filepath"
	"strconv"
	"strings"
	"testing"
)

const allowedImports = " bytes cmp container/heap errors iter maps math math/bits slices sort strconv strings sync sync/atomic unicode unicode/utf8 "

func programFiles(t *testing.T) []string {
	files, err := filepath.Glob("../impl/*")
	if err != nil || len(files) == 0 {
		t.Fatal("no files of the program", err)
	}
	return files
}

func TestLayoutOfTheProgram(t *testing.T) {
	for _, name := range programFiles(t) {
		if !strings.HasSuffix(name, ".go") {
			t.Errorf("%s is no Go file", name)
			continue
		}
		text, err := os.ReadFile(name)
		if err != nil {
			t.Fatal(err)
		}
		laid, err := format.Source(text)
		if err != nil || !bytes.Equal(laid, text) {
			t.Errorf("%s is not laid out by gofmt (%v)", name, err)
		}
		if bytes.Contains(text, []byte("//go:")) {
			t.Errorf("%s has a //go: line", name)
		}
	}
}

func TestImportsAndLengths(t *testing.T) {
	for _, name := range programFiles(t) {
		set := token.NewFileSet()
		file, err := parser.ParseFile(set, name, nil, 0)
		if err != nil {
			t.Fatal(err)
		}
		for _, spec := range file.Imports {
			path, _ := strconv.Unquote(spec.Path.Value)
			if !strings.Contains(allowedImports, " "+path+" ") {
				t.Errorf("%s imports %s", name, path)
			}
		}
		for _, decl := range file.Decls {
			if f, ok := decl.(*ast.FuncDecl); ok {
				lines := set.Position(f.End()).Line - set.Position(f.Pos()).Line + 1
				if lines > 60 {
					t.Errorf("%s: %s has %d lines", name, f.Name.Name, lines)
				}
			}
		}
	}
}
