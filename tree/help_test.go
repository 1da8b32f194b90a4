package tree_test

import (
	"math/rand/v2"
	"reflect"
	"slices"
	"strings"
	"testing"

	"argus/api"
	"argus/token"
	"argus/tree"
)

var (
	ok      = api.Fault{}
	badTree = api.Fault{Err: api.ErrTree, At: 1}
)

// node makes a node without fields.
func node(kind uint8, kids ...int) api.Node { return api.Node{Kind: kind, Kids: kids} }

// named makes a node with a name.
func named(kind uint8, name string, kids ...int) api.Node {
	return api.Node{Kind: kind, Name: name, Kids: kids}
}

// typed makes a node with a name and a type.
func typed(kind uint8, name, typ string, kids ...int) api.Node {
	return api.Node{Kind: kind, Name: name, Type: typ, Kids: kids}
}

func equalNode(a, b api.Node) bool {
	return a.Kind == b.Kind && a.Name == b.Name && a.Var == b.Var && a.Type == b.Type && a.N == b.N && slices.Equal(a.Kids, b.Kids)
}

func equalNodes(a, b []api.Node) bool { return slices.EqualFunc(a, b, equalNode) }

func equalSig(a, b api.Sig) bool {
	return a.Iter == b.Iter && a.Result == b.Result && slices.Equal(a.Args, b.Args) && slices.Equal(a.Signals, b.Signals)
}

func equalModule(a, b api.Module) bool {
	f, g := a.Face, b.Face
	return f.Name == g.Name && f.Kind == g.Kind && f.Param == g.Param && a.Rep == b.Rep &&
		slices.EqualFunc(f.Needs, g.Needs, func(x, y api.Need) bool { return x.Op == y.Op && equalSig(x.Sig, y.Sig) }) &&
		slices.EqualFunc(f.Ops, g.Ops, func(x, y api.Op) bool { return x.Name == y.Name && equalSig(x.Sig, y.Sig) }) &&
		slices.EqualFunc(a.Routines, b.Routines, func(x, y api.Routine) bool {
			return x.Name == y.Name && equalSig(x.Sig, y.Sig) && slices.Equal(x.Params, y.Params) && equalNodes(x.Nodes, y.Nodes)
		})
}

func equalModules(a, b []api.Module) bool { return slices.EqualFunc(a, b, equalModule) }

func mustParse(t *testing.T, src string) []api.Module {
	t.Helper()
	l, f := tree.Parse(src)
	if f != ok {
		t.Fatalf("Parse of %.200q: %v", src, f)
	}
	return l
}

func mustPrint(t *testing.T, l []api.Module) string {
	t.Helper()
	s, e := tree.Print(l)
	if e != api.OK {
		t.Fatalf("Print of %v: %d", l, e)
	}
	return s
}

// body returns the nodes of a procedure with some statements.
func body(t *testing.T, statements string) []api.Node {
	t.Helper()
	l := mustParse(t, "proc p() is "+statements+" end")
	return l[0].Routines[0].Nodes
}

// lines joins lines, each ended by a line feed.
func lines(l ...string) string { return strings.Join(l, "\n") + "\n" }

// laidOut returns a text with these tokens, with gaps of all sorts between.
func laidOut(r *rand.Rand, texts []string) string {
	gaps := []string{" ", "  ", "\n", "\t", "\n\n  ", "% a comment ; end\n", " %\n\n", ""}
	var b strings.Builder
	for i, s := range texts {
		gap := gaps[r.IntN(len(gaps))]
		if i > 0 && gap == "" && isApart(texts[i-1], s) {
			gap = " "
		}
		b.WriteString(gap)
		b.WriteString(s)
	}
	b.WriteString(gaps[r.IntN(len(gaps))])
	return b.String()
}

func isApart(a, b string) bool {
	l, _ := token.Scan(a + b)
	return len(l) != 2 || l[0].Text != a || l[1].Text != b
}

// textsOf returns the texts of a text's tokens.
func textsOf(src string) []string {
	l, _ := token.Scan(src)
	var texts []string
	for _, x := range l {
		texts = append(texts, x.Text)
	}
	return texts
}

// maker makes well-formed modules by chance, the same in each run.
type maker struct {
	*rand.Rand
	nodes []api.Node
	left  int
}

func newMaker(seed uint64) *maker { return &maker{Rand: rand.New(rand.NewPCG(seed, 9))} }

func pick[T any](m *maker, l ...T) T { return l[m.IntN(len(l))] }

func (m *maker) name() string {
	return pick(m, "a", "b", "c", "t", "x1", "u", "y", "twelveletter", "get", "z9")
}

func (m *maker) typ() string {
	for {
		if s := m.typeOf(4); len(s) <= 100 {
			return s
		}
	}
}

func (m *maker) typeOf(depth int) string {
	if depth == 0 {
		return pick(m, "int", "bool", "null", "?t", "set")
	}
	switch m.IntN(9) {
	case 0:
		return "array[" + m.typeOf(depth-1) + "]"
	case 1, 2:
		var fields []string
		for range 1 + m.IntN(3) {
			fields = append(fields, m.name()+":"+m.typeOf(depth-1))
		}
		return pick(m, "record", "oneof") + "[" + strings.Join(fields, ",") + "]"
	case 3:
		return m.name() + "[" + m.typeOf(depth-1) + "]"
	case 4:
		return m.name()
	}
	return m.typeOf(0)
}

func (m *maker) op() string {
	return pick(m, "mod", "and", "or", "not", m.name(), m.name(), m.name()+"_"+m.name())
}

func (m *maker) add(n api.Node) int {
	m.nodes = append(m.nodes, n)
	return len(m.nodes) - 1
}

func (m *maker) exprs(most int) []int {
	var kids []int
	for range m.IntN(most + 1) {
		kids = append(kids, m.expr())
	}
	return kids
}

func (m *maker) call() int {
	kids := m.exprs(pick(m, 0, 1, 2, 3, 6))
	n := api.Node{Kind: api.ExCall, Name: m.name(), Kids: kids}
	switch m.IntN(3) {
	case 0:
		n.Type = m.typ()
	case 1:
		n.Name, n.Var = m.op(), m.typ()
	}
	return m.add(n)
}

func (m *maker) expr() int {
	m.left--
	if m.left < 0 {
		return m.add(named(api.ExVar, m.name()))
	}
	switch m.IntN(12) {
	case 0:
		return m.add(api.Node{Kind: api.ExInt, N: pick(m, 0, 1, 12, 999999999, 1000000000)})
	case 1:
		return m.add(api.Node{Kind: api.ExBool, N: m.IntN(2)})
	case 2:
		return m.add(node(api.ExNil))
	case 3:
		return m.call()
	case 4:
		a := m.expr()
		return m.add(named(api.ExOp, "not", a))
	case 5, 6:
		a, b := m.expr(), m.expr()
		return m.add(named(api.ExOp, pick(m, "+", "-", "*", "/", "mod", "<", "<=", "=", "and", "or"), a, b))
	case 7:
		a, b := m.expr(), m.expr()
		return m.add(node(api.ExIndex, a, b))
	case 8:
		a := m.expr()
		return m.add(named(api.ExField, m.name(), a))
	case 9:
		a := m.expr()
		return m.add(node(pick(m, api.ExUp, api.ExDown), a))
	}
	return m.add(named(api.ExVar, m.name()))
}

func (m *maker) block() int {
	var kids []int
	for range m.IntN(4) {
		if m.left > 0 {
			kids = append(kids, m.statement())
		}
	}
	return m.add(node(api.StSeq, kids...))
}

func (m *maker) statement() int {
	m.left--
	switch m.IntN(13) {
	case 0:
		a := m.expr()
		return m.add(typed(api.StVar, m.name(), m.typ(), a))
	case 1:
		a := m.expr()
		return m.add(named(api.StSet, m.name(), a))
	case 2:
		a, b, c := m.expr(), m.expr(), m.expr()
		return m.add(node(api.StStore, a, b, c))
	case 3:
		a, b := m.expr(), m.expr()
		return m.add(named(api.StField, m.name(), a, b))
	case 4:
		a := m.call()
		return m.add(node(api.StDo, a))
	case 5, 6:
		kids := []int{m.expr(), m.block()}
		if m.IntN(2) == 0 {
			kids = append(kids, m.block())
		}
		return m.add(node(api.StIf, kids...))
	case 7:
		a, b := m.expr(), m.block()
		return m.add(node(api.StWhile, a, b))
	case 8:
		a, b := m.call(), m.block()
		return m.add(typed(api.StFor, m.name(), m.typ(), a, b))
	case 9:
		a := m.exprs(1)
		return m.add(node(api.StReturn, a...))
	case 10:
		return m.except()
	case 11:
		return m.choice()
	}
	switch m.IntN(3) {
	case 0:
		a := m.expr()
		return m.add(node(pick(m, api.StYield, api.StPut), a))
	case 1:
		return m.add(named(api.StSignal, m.name()))
	}
	return m.add(node(api.StBreak))
}

func (m *maker) except() int {
	kids := []int{m.block()}
	whens := 1 + m.IntN(3)
	for i := range whens {
		q, name := m.block(), m.name()
		if i == whens-1 && m.IntN(2) == 0 {
			name = ""
		}
		kids = append(kids, m.add(named(api.StWhen, name, q)))
	}
	return m.add(node(api.StExcept, kids...))
}

func (m *maker) choice() int {
	kids := []int{m.expr()}
	for range 1 + m.IntN(3) {
		q := m.block()
		kids = append(kids, m.add(api.Node{Kind: api.StArm, Name: m.name(), Var: m.name(), Type: m.typ(), Kids: []int{q}}))
	}
	return m.add(node(api.StCase, kids...))
}

// body returns the body of a routine.
func (m *maker) body(size int) []api.Node {
	for {
		m.nodes, m.left = nil, size
		m.block()
		if len(m.nodes) <= 400 {
			return m.nodes
		}
	}
}

// exprNodes returns the nodes of an expression.
func (m *maker) exprNodes(size int) []api.Node {
	for {
		m.nodes, m.left = nil, size
		m.expr()
		if len(m.nodes) <= 400 {
			return m.nodes
		}
	}
}

// ascending returns names in order, each once.
func (m *maker) ascending(most int) []string {
	var l []string
	for range m.IntN(most + 1) {
		l = append(l, m.name())
	}
	slices.Sort(l)
	return slices.Compact(l)
}

func (m *maker) sig(isIter bool) api.Sig {
	s := api.Sig{Iter: isIter, Signals: m.ascending(6)}
	for range m.IntN(4) {
		s.Args = append(s.Args, m.typ())
	}
	if isIter || m.IntN(2) == 0 {
		s.Result = m.typ()
	}
	return s
}

func (m *maker) routine(name string, isIter bool) api.Routine {
	r := api.Routine{Name: name, Sig: m.sig(isIter), Nodes: m.body(pick(m, 0, 5, 20, 100))}
	for range r.Sig.Args {
		r.Params = append(r.Params, m.name())
	}
	return r
}

func (m *maker) module() api.Module {
	x := api.Module{}
	x.Face = api.Face{Name: m.name(), Kind: pick(m, api.ModProc, api.ModIter, api.ModCluster), Param: m.IntN(2) == 0}
	for _, op := range m.ascending(4) {
		x.Face.Needs = append(x.Face.Needs, api.Need{Op: op, Sig: m.sig(m.IntN(3) == 0)})
	}
	names := []string{x.Face.Name}
	if x.Face.Kind == api.ModCluster {
		x.Rep = m.typ()
		names = append(m.ascending(5), "other")
		m.Shuffle(len(names), func(i, j int) { names[i], names[j] = names[j], names[i] })
	}
	for _, name := range names {
		isIter := x.Face.Kind == api.ModIter || x.Face.Kind == api.ModCluster && m.IntN(3) == 0
		x.Routines = append(x.Routines, m.routine(name, isIter))
	}
	for _, r := range x.Routines[:1+m.IntN(len(names))] {
		x.Face.Ops = append(x.Face.Ops, api.Op{Name: r.Name, Sig: r.Sig})
	}
	return x
}

// source returns modules whose text is not too long.
func (m *maker) source() []api.Module {
	for {
		var l []api.Module
		for range m.IntN(4) {
			l = append(l, m.module())
		}
		if s, e := tree.Print(l); e != api.OK || len(s) <= 20000 {
			return l
		}
	}
}

// memory collects where the slices in values lie, with all that they have room for.
type memory struct {
	t   *testing.T
	all [][2]uintptr
}

// add adds the slices of a value; it is an error if one shares memory with those before.
func (m *memory) add(what string, v reflect.Value) {
	switch v.Kind() {
	case reflect.Struct:
		for i := range v.NumField() {
			m.add(what, v.Field(i))
		}
	case reflect.Slice:
		if v.Cap() > 0 {
			from := v.Pointer()
			to := from + uintptr(v.Cap())*v.Type().Elem().Size()
			for _, x := range m.all {
				if from < x[1] && x[0] < to {
					m.t.Errorf("R3: %s: memory is shared", what)
				}
			}
			m.all = append(m.all, [2]uintptr{from, to})
		}
		for i := range v.Len() {
			m.add(what, v.Index(i))
		}
	}
}

// apart asks whether slices in values share no memory.
func apart(t *testing.T, what string, values ...any) {
	t.Helper()
	m := &memory{t: t}
	for _, v := range values {
		m.add(what, reflect.ValueOf(v))
	}
}
