package rules

import (
	"go/ast"
	"go/importer"
	"go/token"
	"go/types"
	"slices"
	"strings"
	"testing"
)

// ways has the features that the document's section Ways asks of each layer that is built.
var ways = map[string]string{
	"token": "range-function array method-expression panic recover defer embedding promoted map label struct-compared",
	"tree":  "array panic recover defer closure generic-function method-value range-function embedding promoted map label",
	"kind":  "closure panic recover defer map range-function generic-function embedding promoted label",
	"face":  "method-expression array variadic generic-function range-function embedding promoted map label closure",
	"check": "map method-expression panic recover defer closure generic-function struct-compared embedding promoted range-function label",
	"mean":  "map method-expression interface-call type-switch panic recover defer closure struct-compared range-function embedding promoted",
	"poly":  "closure range-function method-value panic recover defer map embedding promoted generic-function label",
	"flow":  "map method-expression type-switch interface-call panic recover defer range-function array array-compared embedding promoted generic-function closure label",
	"lower": "method-expression map interface-call type-switch closure array embedding promoted generic-function range-function panic recover defer",
	"dom":   "range-function closure array array-compared map embedding promoted label generic-function method-value three-index",
	"ssa":   "map delete range-function closure struct-compared embedding promoted method-value three-index label panic recover defer",
	"opt":   "map method-expression range-function struct-compared embedding promoted closure generic-function array label",
	"share": "label map struct-compared range-function closure generic-function embedding promoted three-index",
	"color": "array array-compared range-function closure map label embedding promoted generic-function method-expression panic recover defer",
	"code":  "map array method-expression panic recover defer embedding promoted type-switch interface-call generic-function closure three-index",
	"link":  "closure map range-function embedding promoted generic-function panic recover defer copy three-index method-expression array",
}

func TestWays(t *testing.T) {
	program := typed(t)
	for layer, wanted := range ways {
		got := program.waysOf(layer)
		for _, way := range strings.Fields(wanted) {
			if !got[way] {
				t.Errorf("%s does not use: %s", layer, way)
			}
		}
	}
}

// program is the sources by packages, with their types.
type program struct {
	sources map[string][]source
	packs   map[string]*types.Package
	info    types.Info
	set     *token.FileSet
	library types.Importer
	called  map[ast.Expr]bool
}

func typed(t *testing.T) *program {
	t.Helper()
	p := &program{sources: map[string][]source{}, packs: map[string]*types.Package{}}
	p.info = types.Info{Types: map[ast.Expr]types.TypeAndValue{}, Uses: map[*ast.Ident]types.Object{}, Selections: map[*ast.SelectorExpr]*types.Selection{}}
	for _, s := range sources(t) {
		p.set = s.set
		p.sources[s.pack()] = append(p.sources[s.pack()], s)
	}
	p.library = importer.ForCompiler(p.set, "source", nil)
	for layer := range ways {
		if _, err := p.Import("argus/" + layer); err != nil {
			t.Fatal(err)
		}
	}
	return p
}

// Import makes a program an importer of its own packages.
func (p *program) Import(path string) (*types.Package, error) {
	name, own := strings.CutPrefix(path, "argus/")
	if !own {
		return p.library.Import(path)
	}
	if pack := p.packs[name]; pack != nil {
		return pack, nil
	}
	var files []*ast.File
	for _, s := range p.sources[name] {
		files = append(files, s.tree)
	}
	config := types.Config{Importer: p}
	pack, err := config.Check(path, p.set, files, &p.info)
	p.packs[name] = pack
	return pack, err
}

func (p *program) waysOf(layer string) map[string]bool {
	got := map[string]bool{}
	p.called = map[ast.Expr]bool{}
	for _, s := range p.sources[layer] {
		ast.Inspect(s.tree, func(n ast.Node) bool {
			if way := p.way(n); way != "" {
				got[way] = true
			}
			return true
		})
	}
	return got
}

// way returns the feature that a part of a source uses, or the empty string.
func (p *program) way(n ast.Node) string {
	switch x := n.(type) {
	case *ast.CallExpr:
		p.called[ast.Unparen(x.Fun)] = true
	case *ast.DeferStmt:
		return "defer"
	case *ast.LabeledStmt:
		return "label"
	case *ast.MapType:
		return "map"
	case *ast.FuncLit:
		return "closure"
	case *ast.FuncDecl:
		if x.Type.TypeParams != nil {
			return "generic-function"
		}
	case *ast.TypeSwitchStmt:
		return "type-switch"
	case *ast.Ellipsis:
		// The other one is the length of an array.
		if x.Elt != nil {
			return "variadic"
		}
	case *ast.ArrayType:
		if x.Len != nil {
			return "array"
		}
	case *ast.SliceExpr:
		if x.Slice3 {
			return "three-index"
		}
	case *ast.StructType:
		for _, f := range x.Fields.List {
			if len(f.Names) == 0 {
				return "embedding"
			}
		}
	case *ast.RangeStmt:
		if _, ok := p.under(x.X).(*types.Signature); ok {
			return "range-function"
		}
	case *ast.Ident:
		if b, ok := p.info.Uses[x].(*types.Builtin); ok && slices.Contains([]string{"panic", "recover", "delete", "copy"}, b.Name()) {
			return b.Name()
		}
	case *ast.BinaryExpr:
		if x.Op != token.EQL && x.Op != token.NEQ {
			break
		}
		switch p.under(x.X).(type) {
		case *types.Struct:
			return "struct-compared"
		case *types.Array:
			return "array-compared"
		}
	case *ast.SelectorExpr:
		return wayOfSelection(p.info.Selections[x], p.called[x])
	}
	return ""
}

func wayOfSelection(s *types.Selection, isCalled bool) string {
	switch {
	case s == nil:
		return ""
	case len(s.Index()) > 1:
		return "promoted"
	case s.Kind() == types.MethodExpr:
		return "method-expression"
	case types.IsInterface(s.Recv()) && !isTypeParam(s.Recv()):
		return "interface-call"
	case s.Kind() == types.MethodVal && !isCalled:
		return "method-value"
	}
	return ""
}

func isTypeParam(t types.Type) bool {
	_, is := t.(*types.TypeParam)
	return is
}

func (p *program) under(x ast.Expr) types.Type {
	if t := p.info.Types[x].Type; t != nil {
		return t.Underlying()
	}
	return nil
}
