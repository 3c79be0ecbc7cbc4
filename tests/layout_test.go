package tests

import (
	"bytes"
	"go/ast"
	"go/format"
	"go/parser"
	"go/token"
	"os"
	"path/filepath"
	"strings"
	"testing"
)

// The packages of the library that the language page allows.
const allowedImports = " bytes cmp container/heap errors iter maps math math/bits slices sort strconv strings sync sync/atomic unicode unicode/utf8 "

const longestFunction = 60

func eachProgramFile(t *testing.T, look func(path string, text []byte)) {
	t.Helper()
	paths, err := filepath.Glob("../impl/*.go")
	if err != nil || len(paths) == 0 {
		t.Fatal("no program files", err)
	}
	for _, p := range paths {
		text, err := os.ReadFile(p)
		if err != nil {
			t.Fatal(err)
		}
		look(p, text)
	}
}

func TestFilesHaveTheLayoutOfGofmt(t *testing.T) {
	eachProgramFile(t, func(path string, text []byte) {
		want, err := format.Source(text)
		if err != nil || !bytes.Equal(text, want) {
			t.Error(path, err)
		}
	})
}

func TestImportsAreAllowed(t *testing.T) {
	eachProgramFile(t, func(path string, text []byte) {
		f, err := parser.ParseFile(token.NewFileSet(), path, text, parser.ImportsOnly)
		if err != nil {
			t.Fatal(err)
		}
		for _, i := range f.Imports {
			name := strings.Trim(i.Path.Value, "\"")
			if !strings.Contains(allowedImports, " "+name+" ") {
				t.Error(path, name)
			}
		}
	})
}

func TestFunctionsAreShort(t *testing.T) {
	eachProgramFile(t, func(path string, text []byte) {
		files := token.NewFileSet()
		f, err := parser.ParseFile(files, path, text, 0)
		if err != nil {
			t.Fatal(err)
		}
		for _, d := range f.Decls {
			fun, ok := d.(*ast.FuncDecl)
			if !ok {
				continue
			}
			lines := files.Position(fun.End()).Line - files.Position(fun.Pos()).Line + 1
			if lines > longestFunction {
				t.Error(path, fun.Name.Name, lines)
			}
		}
	})
}
