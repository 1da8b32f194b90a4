package tree

import (
	"slices"
	"strings"

	"argus/api"
	"argus/token"
)

// CheckNodes returns ErrTree unless nodes are the body of a routine.
func CheckNodes(l []api.Node) api.Errno {
	if !isTree(l) || l[len(l)-1].Kind != api.StSeq {
		return api.ErrTree
	}
	return api.OK
}

// isExprTree reports whether nodes are an expression.
func isExprTree(l []api.Node) bool { return isTree(l) && isExpr(l[len(l)-1].Kind) }

// isTree reports whether nodes are one tree, not too large, and each as its row of the table says.
func isTree(l []api.Node) bool {
	if len(l) > api.MaxNodes || !isPostorder(l) {
		return false
	}
	table := rows()
	for _, n := range l {
		if int(n.Kind) >= len(table) {
			return false
		}
		switch row := table[n.Kind]; {
		case row == nil:
			return false
		case !row(entryOf(l, n)):
			return false
		}
	}
	return true
}

// isPostorder reports whether nodes are in postorder, with one root.
func isPostorder(l []api.Node) bool {
	var roots []int
	for i, n := range l {
		first := len(roots) - len(n.Kids)
		if first < 0 || !slices.Equal(roots[first:], n.Kids) {
			return false
		}
		roots = append(roots[:first], i)
	}
	return len(roots) == 1
}

// fields are those of a node beside its kind and its kids.
type fields struct {
	Name, Var, Type string
	N               int
}

// entry is a node as the rows of the table see it: its fields, and a letter for each kid.
type entry struct {
	fields
	kids string
}

func entryOf(l []api.Node, n api.Node) entry {
	kids := make([]byte, len(n.Kids))
	for i, k := range n.Kids {
		kids[i] = letter(l[k])
	}
	return entry{fields{n.Name, n.Var, n.Type, n.N}, string(kids)}
}

// letter tells what a node can be as a kid: c a call, e another expression, q a StSeq, w a StWhen with a name and o one without, a a StArm, s another statement.
func letter(n api.Node) byte {
	switch {
	case n.Kind == api.ExCall:
		return 'c'
	case isExpr(n.Kind):
		return 'e'
	case n.Kind == api.StSeq:
		return 'q'
	case n.Kind == api.StWhen && n.Name != "":
		return 'w'
	case n.Kind == api.StWhen:
		return 'o'
	case n.Kind == api.StArm:
		return 'a'
	}
	return 's'
}

func isExpr(kind uint8) bool { return api.ExInt <= kind && kind <= api.ExDown }

// has reports whether the kids are of one of some shapes; a call is an expression.
func (x entry) has(shapes ...string) bool {
	return slices.Contains(shapes, x.kids) || slices.Contains(shapes, strings.ReplaceAll(x.kids, "c", "e"))
}

// hasOnly reports whether each of some kids has one of some letters.
func hasOnly(kids, letters string) bool { return strings.Trim(kids, letters) == "" }

// row reports whether a node is as the table has it.
type row func(x entry) bool

// rows returns the table, by the kinds of nodes.
func rows() [api.StPut + 1]row {
	return [...]row{
		api.ExInt:    isInt,
		api.ExBool:   isBool,
		api.ExNil:    bare(""),
		api.ExVar:    named(""),
		api.ExCall:   isCall,
		api.ExOp:     isOperator,
		api.ExIndex:  bare("ee"),
		api.ExField:  named("e"),
		api.ExUp:     bare("e"),
		api.ExDown:   bare("e"),
		api.StSeq:    isSeq,
		api.StVar:    typed("e"),
		api.StSet:    named("e"),
		api.StStore:  bare("eee"),
		api.StField:  named("ee"),
		api.StDo:     bare("c"),
		api.StIf:     bare("eq", "eqq"),
		api.StWhile:  bare("eq"),
		api.StFor:    typed("cq"),
		api.StReturn: bare("", "e"),
		api.StYield:  bare("e"),
		api.StSignal: named(""),
		api.StExcept: isExcept,
		api.StWhen:   isWhen,
		api.StBreak:  bare(""),
		api.StCase:   isCase,
		api.StArm:    isArm,
		api.StPut:    bare("e"),
	}
}

// bare is the row of a kind without fields, with kids of one of some shapes.
func bare(shapes ...string) row {
	return func(x entry) bool { return x.fields == fields{} && x.has(shapes...) }
}

// named is the row of a kind with a name.
func named(shapes ...string) row {
	return func(x entry) bool {
		return x.fields == fields{Name: x.Name} && token.IsName(x.Name) && x.has(shapes...)
	}
}

// typed is the row of a kind with a name and a type.
func typed(shapes ...string) row {
	return func(x entry) bool {
		return x.fields == fields{Name: x.Name, Type: x.Type} && token.IsName(x.Name) && IsType(x.Type) && x.has(shapes...)
	}
}

func isInt(x entry) bool {
	return x.fields == fields{N: x.N} && 0 <= x.N && x.N <= api.MaxInt && x.has("")
}

func isBool(x entry) bool {
	return x.fields == fields{N: x.N} && (x.N == 0 || x.N == 1) && x.has("")
}

func isCall(x entry) bool {
	if x.N != 0 || len(x.kids) > api.MaxArgs || !hasOnly(x.kids, "ce") {
		return false
	}
	if x.Var != "" {
		return x.Type == "" && IsOp(x.Name) && IsType(x.Var)
	}
	return token.IsName(x.Name) && (x.Type == "" || IsType(x.Type))
}

func isOperator(x entry) bool {
	if x.fields != (fields{Name: x.Name}) {
		return false
	}
	if x.Name == "not" {
		return x.has("e")
	}
	return isBinary(x.Name) && x.has("ee")
}

// isBinary reports whether an operator stands between two operands.
func isBinary(name string) bool {
	for _, op := range operators {
		if op == name {
			return true
		}
	}
	return false
}

func isSeq(x entry) bool { return x.fields == fields{} && hasOnly(x.kids, "s") }

func isExcept(x entry) bool {
	whens, ok := strings.CutPrefix(x.kids, "q")
	return ok && whens != "" && x.fields == fields{} && hasOnly(strings.TrimSuffix(whens, "o"), "w")
}

func isWhen(x entry) bool {
	return x.fields == fields{Name: x.Name} && (x.Name == "" || token.IsName(x.Name)) && x.has("q")
}

func isCase(x entry) bool {
	return x.fields == fields{} && len(x.kids) > 1 && hasOnly(x.kids[:1], "ce") && hasOnly(x.kids[1:], "a")
}

func isArm(x entry) bool {
	return x.N == 0 && token.IsName(x.Name) && token.IsName(x.Var) && IsType(x.Type) && x.has("q")
}

// Check returns ErrTree for a module that is not well-formed.
func Check(m api.Module) api.Errno {
	if !token.IsName(m.Face.Name) || !areNeeds(m.Face.Needs) || !areRoutines(m.Routines) || !isOfKind(m) {
		return api.ErrTree
	}
	return api.OK
}

func areNeeds(l []api.Need) bool {
	if len(l) > api.MaxNeeds {
		return false
	}
	names := make([]string, len(l))
	for i, x := range l {
		names[i] = x.Op
		if !isSig(x.Sig) {
			return false
		}
	}
	return areAscending(names)
}

// areAscending reports whether strings are names, each one greater than the one before.
func areAscending(names []string) bool {
	for i, name := range names {
		if !token.IsName(name) || i > 0 && names[i-1] >= name {
			return false
		}
	}
	return true
}

func isSig(s api.Sig) bool {
	if len(s.Args) > api.MaxArgs || len(s.Signals) > api.MaxSignals || !areAscending(s.Signals) {
		return false
	}
	for _, t := range s.Args {
		if !IsType(t) {
			return false
		}
	}
	return IsType(s.Result) || s.Result == "" && !s.Iter
}

func areRoutines(l []api.Routine) bool {
	if len(l) < 1 || len(l) > api.MaxRoutines {
		return false
	}
	met := map[string]bool{}
	for _, r := range l {
		if met[r.Name] || !isRoutine(r) {
			return false
		}
		met[r.Name] = true
	}
	return true
}

func isRoutine(r api.Routine) bool {
	if !token.IsName(r.Name) || !isSig(r.Sig) || len(r.Params) != len(r.Sig.Args) {
		return false
	}
	for _, name := range r.Params {
		if !token.IsName(name) {
			return false
		}
	}
	return CheckNodes(r.Nodes) == api.OK
}

// isOfKind reports whether a module has what is said of its kind.
func isOfKind(m api.Module) bool {
	ops := m.Face.Ops
	if len(ops) < 1 || len(ops) > len(m.Routines) {
		return false
	}
	for i, op := range ops {
		if r := m.Routines[i]; op.Name != r.Name || !equalSigs(op.Sig, r.Sig) {
			return false
		}
	}
	switch m.Face.Kind {
	case api.ModProc, api.ModIter:
		r := m.Routines[0]
		return len(m.Routines) == 1 && r.Name == m.Face.Name && m.Rep == "" && r.Sig.Iter == (m.Face.Kind == api.ModIter)
	case api.ModCluster:
		return IsType(m.Rep)
	}
	return false
}

func equalSigs(a, b api.Sig) bool {
	return a.Iter == b.Iter && a.Result == b.Result && slices.Equal(a.Args, b.Args) && slices.Equal(a.Signals, b.Signals)
}
