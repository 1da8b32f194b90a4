package rules

import (
	"bytes"
	"go/ast"
	"go/format"
	"go/token"
	"go/types"
	"path/filepath"
	"slices"
	"strings"
	"testing"
)

// library has the packages of the library that the program may import.
var library = strings.Fields("bytes cmp container/heap errors iter maps math math/bits slices sort strconv strings sync sync/atomic unicode unicode/utf8")

// calls has the layers that each layer calls, as the document's overview lists them.
var calls = map[string]string{
	"api": "", "token": "api", "tree": "api token", "kind": "api token", "face": "api token kind",
	"check": "api token tree kind face", "mean": "api token kind face check", "poly": "api token kind face check mean",
	"flow": "api", "lower": "api kind face mean poly flow", "dom": "api flow", "ssa": "api flow dom", "opt": "api flow dom ssa",
	"share": "api flow", "color": "api flow dom ssa", "code": "api flow", "link": "api", "heap": "api", "vm": "api flow code link heap",
	"store": "api token face", "action": "api token kind face check mean", "sim": "api token kind face check mean",
	"whole": "api token tree kind face check mean poly flow lower dom ssa opt share color code link heap vm",
}

func TestImports(t *testing.T) {
	for _, s := range sources(t) {
		for _, path := range s.imports() {
			if !strings.HasPrefix(path, "argus/") && !slices.Contains(library, path) {
				t.Errorf("%s imports %s", s.path, path)
			}
		}
	}
}

func TestLayersCallLowerLayers(t *testing.T) {
	found := map[string]bool{}
	for _, s := range sources(t) {
		may, isLayer := calls[s.pack()]
		found[s.pack()] = true
		for _, path := range s.imports() {
			callee, isOwn := strings.CutPrefix(path, "argus/")
			if isLayer && isOwn && !slices.Contains(strings.Fields(may), callee) {
				t.Errorf("%s imports %s", s.path, path)
			}
		}
	}
	for layer := range calls {
		if !found[layer] {
			t.Errorf("there is no package %s", layer)
		}
	}
}

func TestFiles(t *testing.T) {
	eachFile(t, func(path string) {
		if filepath.Dir(path) != "." && !strings.HasSuffix(path, ".go") {
			t.Errorf("%s is no Go file", path)
		}
	})
}

func TestLayout(t *testing.T) {
	for _, s := range sources(t) {
		text, err := format.Source(s.text)
		if err != nil || !bytes.Equal(text, s.text) {
			t.Errorf("%s is not laid out as gofmt does it: %v", s.path, err)
		}
	}
}

func TestNoDirectives(t *testing.T) {
	for _, s := range sources(t) {
		for _, group := range s.tree.Comments {
			for _, c := range group.List {
				if strings.HasPrefix(c.Text, "//go:") || strings.HasPrefix(c.Text, "// +build") {
					t.Errorf("%s: %s", s.where(c), c.Text)
				}
			}
		}
	}
}

func TestFunctions(t *testing.T) {
	for _, s := range sources(t) {
		for _, d := range s.tree.Decls {
			f, ok := d.(*ast.FuncDecl)
			if !ok {
				continue
			}
			if f.Recv == nil && f.Name.Name == "init" {
				t.Errorf("%s: no way asks for init", s.where(f))
			}
			if lines := s.set.Position(f.End()).Line - s.set.Position(f.Pos()).Line + 1; lines > 65 {
				t.Errorf("%s: %s has %d lines", s.where(f), f.Name.Name, lines)
			}
		}
	}
}

// TestNames looks for what is named in a text: printing, and library calls that are not allowed.
func TestNames(t *testing.T) {
	banned := strings.Fields("iter.Pull iter.Pull2 sync.Pool sync.Map sync.Cond sync.OnceFunc sync.OnceValue sync.OnceValues")
	for _, s := range sources(t) {
		ast.Inspect(s.tree, func(n ast.Node) bool {
			switch x := n.(type) {
			case *ast.CallExpr:
				if f, ok := x.Fun.(*ast.Ident); ok && (f.Name == "print" || f.Name == "println") {
					t.Errorf("%s prints", s.where(x))
				}
			case *ast.SelectorExpr:
				if from, ok := x.X.(*ast.Ident); ok && slices.Contains(banned, from.Name+"."+x.Sel.Name) {
					t.Errorf("%s: %s.%s", s.where(x), from.Name, x.Sel.Name)
				}
			}
			return true
		})
	}
}

func TestPackageVariables(t *testing.T) {
	for _, s := range sources(t) {
		for _, d := range s.tree.Decls {
			g, ok := d.(*ast.GenDecl)
			if !ok || g.Tok != token.VAR {
				continue
			}
			for _, spec := range g.Specs {
				askVariable(t, s, spec.(*ast.ValueSpec))
			}
		}
	}
}

// askVariable refuses package-level variables without a value, and values that are no short tables of literals.
func askVariable(t *testing.T, s source, v *ast.ValueSpec) {
	if len(v.Values) != len(v.Names) {
		t.Errorf("%s: %s has no value", s.where(v), v.Names[0].Name)
	}
	for _, value := range v.Values {
		literals := 0
		ast.Inspect(value, func(n ast.Node) bool {
			switch x := n.(type) {
			case *ast.MapType, *ast.FuncType, *ast.FuncLit:
				t.Errorf("%s: a map or a function at package level", s.where(x))
			case *ast.CallExpr:
				if types.ExprString(x.Fun) != "errors.New" {
					t.Errorf("%s: a call at package level", s.where(x))
				}
			case *ast.BasicLit:
				literals++
				if x.Kind == token.FLOAT {
					t.Errorf("%s: a float at package level", s.where(x))
				}
			}
			return true
		})
		if literals > 250 {
			t.Errorf("%s: a table of %d literals", s.where(v), literals)
		}
	}
}
