package tests

import (
	"bytes"
	"go/ast"
	"go/format"
	"go/parser"
	"go/token"
	"os"
	"path/filepath"
	"strconv"
	"strings"
	"testing"
)

// allowedImports are the packages that the language of the program has.
const allowedImports = " bytes cmp container/heap errors iter maps math math/bits slices sort strconv strings sync sync/atomic unicode unicode/utf8 "

// mostLines is how long a function may be.
const mostLines = 60

func TestProgramKeepsToItsLanguage(t *testing.T) {
	paths, err := filepath.Glob("../impl/*")
	if err != nil || len(paths) != 11 {
		t.Fatalf("impl has the files %v, %v", paths, err)
	}
	for _, path := range paths {
		source, err := os.ReadFile(path)
		if err != nil {
			t.Fatal(err)
		}
		if formatted, err := format.Source(source); err != nil || !bytes.Equal(formatted, source) {
			t.Errorf("%s does not have the layout of gofmt: %v", path, err)
		}
		checkLanguage(t, path, source)
	}
}

func checkLanguage(t *testing.T, path string, source []byte) {
	files := token.NewFileSet()
	file, err := parser.ParseFile(files, path, source, parser.ParseComments)
	if err != nil {
		t.Fatal(err)
	}
	for _, i := range file.Imports {
		if name, _ := strconv.Unquote(i.Path.Value); !strings.Contains(allowedImports, " "+name+" ") {
			t.Errorf("%s imports %s", path, name)
		}
	}
	for _, group := range file.Comments {
		for _, comment := range group.List {
			if strings.HasPrefix(comment.Text, "//go:") {
				t.Errorf("%s has the directive %s", path, comment.Text)
			}
		}
	}
	for _, d := range file.Decls {
		if f, ok := d.(*ast.FuncDecl); ok {
			if lines := files.Position(f.End()).Line - files.Position(f.Pos()).Line + 1; lines > mostLines {
				t.Errorf("%s: %s has %d lines", path, f.Name.Name, lines)
			}
		}
	}
}
