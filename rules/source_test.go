// Package rules has tests alone: they look at the program's sources, not at what these do.
package rules

import (
	"go/ast"
	"go/parser"
	"go/token"
	"io/fs"
	"os"
	"path/filepath"
	"slices"
	"strconv"
	"strings"
	"testing"
)

// source is a Go file of the program that is no test.
type source struct {
	path string
	text []byte
	tree *ast.File
	set  *token.FileSet
}

func (s source) pack() string { return filepath.Dir(s.path) }

func (s source) where(n ast.Node) string { return s.set.Position(n.Pos()).String() }

// imports returns the paths that a file imports.
func (s source) imports() []string {
	var l []string
	for _, spec := range s.tree.Imports {
		path, _ := strconv.Unquote(spec.Path.Value)
		l = append(l, path)
	}
	return l
}

// isBeside reports whether a folder stands beside the program: checks lay packages of their own in some of these.
func isBeside(path string) bool {
	return slices.Contains([]string{".git", ".ci", "sharedtests", "form", "try"}, path) || strings.HasPrefix(path, "argus")
}

// eachFile calls do for every file of the project.
func eachFile(t *testing.T, do func(path string)) {
	t.Helper()
	root := os.DirFS("..")
	err := fs.WalkDir(root, ".", func(path string, d fs.DirEntry, err error) error {
		switch {
		case err != nil:
			return err
		case d.IsDir() && isBeside(path):
			return fs.SkipDir
		case !d.IsDir():
			do(path)
		}
		return nil
	})
	if err != nil {
		t.Fatal(err)
	}
}

// sources returns all files of the program.
func sources(t *testing.T) []source {
	t.Helper()
	set := token.NewFileSet()
	var l []source
	eachFile(t, func(path string) {
		if !strings.HasSuffix(path, ".go") || strings.HasSuffix(path, "_test.go") {
			return
		}
		text, err := os.ReadFile(filepath.Join("..", path))
		if err != nil {
			t.Fatal(err)
		}
		tree, err := parser.ParseFile(set, path, text, parser.ParseComments)
		if err != nil {
			t.Fatal(err)
		}
		l = append(l, source{path: path, text: text, tree: tree, set: set})
	})
	if len(l) < 20 {
		t.Fatalf("only %d sources were found", len(l))
	}
	return l
}
