// Package rules checks that the source of the program keeps to shared/LANGUAGE.md, as far as a short test can tell.
package rules

import (
	"bytes"
	"go/ast"
	"go/format"
	"go/parser"
	"go/token"
	"io/fs"
	"os"
	"path/filepath"
	"slices"
	"strconv"
	"strings"
	"testing"
)

const root = ".."

// library is what rule 1 allows of the standard library.
var library = strings.Fields("bytes cmp container/heap errors iter maps math math/bits slices sort strconv strings sync sync/atomic unicode unicode/utf8")

// maxLines leaves a margin, since rule 9 says about 60.
const maxLines = 66

// sources calls check with each Go file of the program. Tests may use all of Go.
func sources(t *testing.T, check func(path string, src []byte, set *token.FileSet, file *ast.File)) {
	t.Helper()
	files := 0
	err := filepath.WalkDir(root, func(path string, d fs.DirEntry, err error) error {
		if err != nil {
			return err
		}
		if d.IsDir() && path != root && (d.Name() == "sharedtests" || strings.HasPrefix(d.Name(), ".")) {
			return filepath.SkipDir
		}
		if d.IsDir() || !strings.HasSuffix(path, ".go") || strings.HasSuffix(path, "_test.go") {
			return nil
		}
		src, err := os.ReadFile(path)
		if err != nil {
			return err
		}
		set := token.NewFileSet()
		file, err := parser.ParseFile(set, path, src, parser.ParseComments)
		if err != nil {
			return err
		}
		files++
		check(path, src, set, file)
		return nil
	})
	if err != nil {
		t.Fatal(err)
	}
	if files == 0 {
		t.Fatal("no sources found")
	}
}

func TestImports(t *testing.T) {
	sources(t, func(path string, _ []byte, _ *token.FileSet, file *ast.File) {
		for _, i := range file.Imports {
			name, err := strconv.Unquote(i.Path.Value)
			if err != nil || !strings.HasPrefix(name, "nacelle/") && !slices.Contains(library, name) {
				t.Error(path, "imports", i.Path.Value)
			}
		}
	})
}

func TestLayout(t *testing.T) {
	sources(t, func(path string, src []byte, set *token.FileSet, file *ast.File) {
		if formatted, err := format.Source(src); err != nil || !bytes.Equal(formatted, src) {
			t.Error(path, "is not in the layout of gofmt")
		}
		for _, d := range file.Decls {
			if f, ok := d.(*ast.FuncDecl); ok {
				if lines := set.Position(f.End()).Line - set.Position(f.Pos()).Line + 1; lines > maxLines {
					t.Error(path, f.Name.Name, "has", lines, "lines")
				}
			}
		}
	})
}

func TestDirectives(t *testing.T) {
	sources(t, func(path string, _ []byte, _ *token.FileSet, file *ast.File) {
		for _, group := range file.Comments {
			for _, c := range group.List {
				if strings.HasPrefix(c.Text, "//go:") || strings.HasPrefix(c.Text, "// +build") {
					t.Error(path, c.Text)
				}
			}
		}
	})
}

// TestVariables rejects variables of packages that have no value, or the value of a call other than errors.New, a function or a map.
func TestVariables(t *testing.T) {
	sources(t, func(path string, _ []byte, _ *token.FileSet, file *ast.File) {
		for _, d := range file.Decls {
			g, ok := d.(*ast.GenDecl)
			if !ok || g.Tok != token.VAR {
				continue
			}
			for _, s := range g.Specs {
				v := s.(*ast.ValueSpec)
				if len(v.Values) != len(v.Names) {
					t.Error(path, v.Names[0].Name, "has no value of its own")
				}
				for _, x := range v.Values {
					if !plain(x) {
						t.Error(path, v.Names[0].Name, "has a value that is not plain")
					}
				}
			}
		}
	})
}

func plain(x ast.Expr) bool {
	ok := true
	ast.Inspect(x, func(n ast.Node) bool {
		switch y := n.(type) {
		case *ast.FuncLit, *ast.MapType:
			ok = false
		case *ast.CallExpr:
			s, is := y.Fun.(*ast.SelectorExpr)
			ok = ok && is && s.Sel.Name == "New" && isName(s.X, "errors")
		}
		return ok
	})
	return ok
}

func isName(x ast.Expr, name string) bool {
	i, ok := x.(*ast.Ident)
	return ok && i.Name == name
}
