package check_test

import (
	"fmt"
	"reflect"
	"slices"
	"strings"
	"testing"

	"argus/api"
	"argus/check"
	"argus/tree"
)

var ok = api.Fault{}

// town has modules that the tests use in others.
const town = `
cluster bag[t] is new, add, fetch, store, each where t has equal: proc(?t, ?t) returns bool
  rep = array[?t]
  proc new() returns bag[?t] is return up(array[?t]$new()) end
  proc add(b: bag[?t], x: ?t) signals (overflow) is if not bag[?t]$find(b, x) then array[?t]$addh(down(b), x) end end
  proc fetch(b: bag[?t], i: int) returns ?t signals (bounds) is return down(b)[i] end
  proc store(b: bag[?t], i: int, x: ?t) returns bool signals (bounds) is down(b)[i] := x; return true end
  iter each(b: bag[?t]) yields ?t is for x: ?t in items{?t}(down(b)) do yield x end end
  proc find(b: bag[?t], x: ?t) returns bool is for y: ?t in bag[?t]$each(b) do if y = x then return true end end; return false end
end
cluster box[t] is new, get, set
  rep = record[v:?t]
  proc new(x: ?t) returns box[?t] is return up(record[v:?t]$make(x)) end
  proc get(b: box[?t]) returns ?t is return down(b).v end
  proc set(b: box[?t], x: ?t) is down(b).v := x end
end
cluster coin is make, heads, equal, lt, sub, div, twice
  rep = bool
  proc make(b: bool) returns coin is return up(b) end
  proc heads(c: coin) returns bool is return down(c) end
  proc equal(c: coin, d: coin) returns bool is return down(c) = down(d) end
  proc lt(c: coin, d: coin) returns bool is return (not down(c)) and down(d) end
  proc sub(c: coin, i: int) returns coin is if i <= 0 then return c end; return coin$turned(c) - (i - 1) end
  proc div(c: coin, d: coin) is end
  iter twice(c: coin) yields coin is yield c; yield coin$turned(c) end
  proc turned(c: coin) returns coin is return up(not down(c)) end
  iter sides() yields coin is yield up(true); yield up(false) end
end
proc deep[t](a: array[array[?t]]) returns int is return array[array[?t]]$size(a) end
proc idle() is end
proc inc(a: int) returns int is return a + 1 end
iter items[t](a: array[?t]) yields ?t signals (bounds) is var i: int := 1; while i <= array[?t]$size(a) do yield a[i]; i := i + 1 end end
proc least[t](a: ?t, b: ?t) returns ?t where t has lt: proc(?t, ?t) returns bool is if a < b then return a end; return b end
cluster pair[t] is make, left, all
  rep = box[record[l:?t,r:?t]]
  proc make(l: ?t, r: ?t) returns pair[?t] is return up(box[record[l:?t,r:?t]]$new(record[l:?t,r:?t]$make(l, r))) end
  proc left(p: pair[?t]) returns ?t is return box[record[l:?t,r:?t]]$get(down(p)).l end
  proc all(p: pair[?t]) returns array[array[?t]] is end
end
iter upto(a: int, b: int) yields int signals (low) is if b < a then signal low end; while a <= b do yield a; a := a + 1 end end
`

// parse reads modules; texts that are none are a mistake of the tests.
func parse(t *testing.T, sources ...string) []api.Module {
	t.Helper()
	l, f := tree.Parse(strings.Join(sources, "\n"))
	if f != ok {
		t.Fatalf("Parse of %.200s: %v", strings.Join(sources, "\n"), f)
	}
	return l
}

// program checks modules that have no fault.
func program(t *testing.T, l []api.Module) api.Program {
	t.Helper()
	p, f := check.Check(l)
	if f != ok {
		t.Fatalf("Check: %v\n%s", f, source(l))
	}
	return p
}

func programOf(t *testing.T, sources ...string) api.Program {
	t.Helper()
	return program(t, parse(t, sources...))
}

func source(l []api.Module) string {
	s, _ := tree.Print(l)
	return s
}

// askFault asks whether modules have a fault, and nothing else; so has a second way to check.
func askFault(t *testing.T, what string, l []api.Module, want api.Fault) {
	t.Helper()
	p, f := check.Check(l)
	if f != want || !reflect.DeepEqual(p, api.Program{}) {
		t.Errorf("%s: %v, not %v, %s", what, f, want, show(p))
	}
	if _, f := plainCheck(l); f != want {
		t.Errorf("%s: the second way: %v, not %v", what, f, want)
	}
}

func askValid(t *testing.T, what string, p api.Program) {
	t.Helper()
	if e := check.CheckProgram(p); e != api.OK {
		t.Errorf("%s: CheckProgram: %d\n%s", what, e, show(p))
	}
	if !isPlainlyValid(p) {
		t.Errorf("%s: valid, the second way says no\n%s", what, show(p))
	}
}

func askInvalid(t *testing.T, what string, p api.Program) {
	t.Helper()
	if e := check.CheckProgram(p); e != api.ErrProgram {
		t.Errorf("%s: CheckProgram: %d\n%s", what, e, show(p))
	}
	if isPlainlyValid(p) {
		t.Errorf("%s: not valid, the second way says yes\n%s", what, show(p))
	}
}

var kindNames = map[uint8]string{
	api.ExInt: "int", api.ExBool: "bool", api.ExNil: "nil", api.ExVar: "var", api.ExCall: "call", api.ExOp: "op", api.ExIndex: "index", api.ExField: "field", api.ExUp: "up", api.ExDown: "down",
	api.StSeq: "seq", api.StVar: "declare", api.StSet: "set", api.StStore: "store", api.StField: "setfield", api.StDo: "do", api.StIf: "if", api.StWhile: "while", api.StFor: "for", api.StReturn: "return", api.StYield: "yield",
	api.StSignal: "signal", api.StExcept: "except", api.StWhen: "when", api.StBreak: "break", api.StCase: "case", api.StArm: "arm", api.StPut: "put",
}

// showNode writes a node: its kind, N, Name, Var, the kids and the Type, as far as they are there.
func showNode(n api.Node) string {
	s := kindNames[n.Kind]
	if s == "" {
		s = fmt.Sprint("kind ", n.Kind)
	}
	if n.N != 0 {
		s += fmt.Sprint(" #", n.N)
	}
	if n.Name != "" {
		s += " " + n.Name
	}
	if n.Var != "" {
		s += " of " + n.Var
	}
	for _, k := range n.Kids {
		s += fmt.Sprint(" ", k)
	}
	if n.Type != "" {
		s += " : " + n.Type
	}
	return s
}

// showNodes writes nodes, one behind the other.
func showNodes(l []api.Node) string {
	var out []string
	for _, n := range l {
		out = append(out, showNode(n))
	}
	return strings.Join(out, "; ")
}

func showSig(s api.Sig) string {
	return fmt.Sprintf("iter %v %q returns %q signals %q", s.Iter, s.Args, s.Result, s.Signals)
}

func showCore(c api.Core) string {
	return fmt.Sprintf("core %q %q %s slots %q\n  %s\n", c.Owner, c.Name, showSig(c.Sig), c.Slots, showNodes(c.Nodes))
}

func showFace(f api.Face) string {
	s := fmt.Sprintf("face %q %d %v\n", f.Name, f.Kind, f.Param)
	for _, n := range f.Needs {
		s += fmt.Sprintf("  has %q %s\n", n.Op, showSig(n.Sig))
	}
	for _, o := range f.Ops {
		s += fmt.Sprintf("  op %q %s\n", o.Name, showSig(o.Sig))
	}
	return s
}

// show writes all of a program; nil and empty slices are the same.
func show(p api.Program) string {
	var b strings.Builder
	for _, f := range p.Faces {
		b.WriteString(showFace(f))
	}
	fmt.Fprintf(&b, "reps %q\n", p.Reps)
	for _, c := range p.Cores {
		b.WriteString(showCore(c))
	}
	return b.String()
}

// showModules writes all of modules.
func showModules(l []api.Module) string {
	var b strings.Builder
	for _, m := range l {
		fmt.Fprintf(&b, "%srep %q\n", showFace(m.Face), m.Rep)
		for _, r := range m.Routines {
			fmt.Fprintf(&b, "routine %q %s params %q\n  %s\n", r.Name, showSig(r.Sig), r.Params, showNodes(r.Nodes))
		}
	}
	return b.String()
}

// core returns the core of a program with an owner and a name.
func core(t *testing.T, p api.Program, owner, name string) api.Core {
	t.Helper()
	c, e := check.CoreOf(p, owner, name)
	if e != api.OK {
		t.Fatalf("CoreOf(%s, %s): %d", owner, name, e)
	}
	return c
}

// copied returns a program in new memory.
func copied(p api.Program) api.Program {
	sig := func(s api.Sig) api.Sig {
		s.Args, s.Signals = slices.Clone(s.Args), slices.Clone(s.Signals)
		return s
	}
	q := api.Program{Reps: slices.Clone(p.Reps)}
	for _, f := range p.Faces {
		f.Needs, f.Ops = slices.Clone(f.Needs), slices.Clone(f.Ops)
		for i, n := range f.Needs {
			f.Needs[i].Sig = sig(n.Sig)
		}
		for i, o := range f.Ops {
			f.Ops[i].Sig = sig(o.Sig)
		}
		q.Faces = append(q.Faces, f)
	}
	for _, c := range p.Cores {
		c.Sig, c.Slots, c.Nodes = sig(c.Sig), slices.Clone(c.Slots), slices.Clone(c.Nodes)
		for i, n := range c.Nodes {
			c.Nodes[i].Kids = slices.Clone(n.Kids)
		}
		q.Cores = append(q.Cores, c)
	}
	return q
}

// memory collects where the slices in values lie, with all that they have room for.
type memory struct {
	t   *testing.T
	all [][2]uintptr
}

// add adds the slices of a value; it is an error if one shares memory with those before.
func (m *memory) add(what string, v reflect.Value) {
	switch v.Kind() {
	case reflect.Struct:
		for i := range v.NumField() {
			m.add(what, v.Field(i))
		}
	case reflect.Slice:
		if v.Cap() > 0 {
			m.all = append(m.all, [2]uintptr{v.Pointer(), v.Pointer() + uintptr(v.Cap())*v.Type().Elem().Size()})
		}
		for i := range v.Len() {
			m.add(what, v.Index(i))
		}
	}
}

// apart asks whether no two slices in values share memory.
func apart(t *testing.T, what string, values ...any) {
	t.Helper()
	m := &memory{t: t}
	for _, v := range values {
		m.add(what, reflect.ValueOf(v))
	}
	slices.SortFunc(m.all, func(a, b [2]uintptr) int { return int(a[0]) - int(b[0]) })
	for i := 1; i < len(m.all); i++ {
		if m.all[i][0] < m.all[i-1][1] {
			t.Errorf("R3: %s: memory is shared", what)
			return
		}
	}
}
