package check_test

import (
	"fmt"
	"math/rand/v2"
	"slices"
	"strings"
	"testing"

	"argus/api"
	"argus/tree"
)

// maker makes modules by chance, the same in each run: texts of modules that use the town, mostly right ones.
type maker struct {
	*rand.Rand
	// mistakes is how often something is wrong: once in so many times, or never if it is 0.
	mistakes int
	open     bool
	result   string
	isIter   bool
	inLoop   bool
	count    int
	vars     []api.Part
	own, rep string
}

func newMaker(seed uint64, mistakes int) *maker {
	return &maker{Rand: rand.New(rand.NewPCG(seed, 5)), mistakes: mistakes}
}

func pick[T any](m *maker, l ...T) T { return l[m.IntN(len(l))] }

func (m *maker) isWrong() bool { return m.mistakes > 0 && m.IntN(m.mistakes) == 0 }

// wrongTypes are good nowhere, or almost.
func wrongTypes() []string {
	return []string{"nowhere", "bag[box[int]]", "?t", "coin[int]", "box", "inc", "record[b:int,a:int]"}
}

// typ makes a type of at most so many levels.
func (m *maker) typ(levels int) string {
	if m.isWrong() {
		return pick(m, wrongTypes()...)
	}
	if m.open && m.IntN(4) == 0 {
		return "?t"
	}
	if m.own != "" && m.IntN(4) == 0 {
		return m.own
	}
	if levels <= 1 || m.IntN(3) == 0 {
		return pick(m, "int", "int", "bool", "null", "coin")
	}
	switch inner := m.typ(levels - 1); m.IntN(6) {
	case 0:
		return "array[" + inner + "]"
	case 1:
		return "record[l:" + inner + ",r:" + m.typ(1) + "]"
	case 2:
		return "oneof[l:" + inner + ",r:" + m.typ(1) + "]"
	case 3:
		return "bag[" + pick(m, "int", "bool", "coin", "array[int]") + "]"
	case 4:
		return "pair[" + inner + "]"
	default:
		return "box[" + inner + "]"
	}
}

// known returns the variables of a type.
func (m *maker) known(t string) []string {
	var l []string
	for _, v := range m.vars {
		if v.Type == t {
			l = append(l, v.Name)
		}
	}
	return l
}

// expr makes an expression of a type.
func (m *maker) expr(t string, depth int) string {
	if m.isWrong() {
		if m.IntN(3) == 0 {
			return pick(m, "unknown", "down(1)", "idle()", "inc()", "int$none(1)", "upto(1, 2)", "coin$turned(c)", "up(nil)", "least{bool}(1, 2)", "1[2]", "nil.f", "(not 1)")
		}
		t = m.typ(2)
	}
	if slices.Contains(wrongTypes(), t) && t != "?t" {
		return "nil"
	}
	if l := m.known(t); len(l) > 0 && m.IntN(3) > 0 {
		return pick(m, l...)
	}
	if depth > 0 {
		switch m.IntN(8) {
		case 0:
			return "box[" + t + "]$get(" + m.expr("box["+t+"]", depth-1) + ")"
		case 1:
			return m.expr("record[l:"+t+",r:int]", depth-1) + ".l"
		case 2:
			return m.expr("array["+t+"]", depth-1) + "[" + m.expr("int", depth-1) + "]"
		}
		if s := m.operated(t, depth-1); s != "" {
			return "(" + s + ")"
		}
	}
	return m.made(t, depth)
}

// operated makes an expression with an operator, or none.
func (m *maker) operated(t string, depth int) string {
	two := func(t string, ops ...string) string {
		return m.expr(t, depth) + " " + pick(m, ops...) + " " + m.expr(t, depth)
	}
	switch {
	case t == "int":
		return pick(m, two("int", "+", "-", "*", "/", "mod"), "inc("+m.expr("int", depth)+")", "least{int}("+m.expr("int", depth)+", 2)")
	case t == "bool":
		other := m.typ(2)
		equal := "true"
		if front, _, _ := strings.Cut(other, "["); !slices.Contains([]string{"?t", "box", "pair", "bag", "k"}, front) {
			equal = two(other, "=")
		}
		return pick(m, two("int", "<", "<=", "="), two("bool", "and", "or", "="), "not "+m.expr("bool", depth), equal, two("coin", "<", "="), "coin$heads("+m.expr("coin", depth)+")")
	case t == "coin":
		return m.expr("coin", depth) + " - " + m.expr("int", depth)
	case t == m.own && m.own != "":
		return "up(" + m.expr(m.rep, depth) + ")"
	case t == m.rep && m.own != "":
		return "down(" + m.expr(m.own, depth) + ")"
	}
	return ""
}

// made makes an expression that calls what makes values of a type.
func (m *maker) made(t string, depth int) string {
	front, inner, _ := strings.Cut(strings.TrimSuffix(t, "]"), "[")
	switch front {
	case "int":
		return fmt.Sprint(m.IntN(100))
	case "bool":
		return pick(m, "true", "false")
	case "null":
		return "nil"
	case "coin":
		return "coin$make(" + m.expr("bool", depth-1) + ")"
	case "array", "bag":
		return t + "$new()"
	case "box":
		return t + "$new(" + m.expr(inner, depth-1) + ")"
	case "pair":
		return t + "$make(" + m.expr(inner, depth-1) + ", " + m.expr(inner, depth-1) + ")"
	case "record":
		var l []string
		for _, part := range divide(inner) {
			_, typ, _ := strings.Cut(part, ":")
			l = append(l, m.expr(typ, depth-1))
		}
		return t + "$make(" + strings.Join(l, ", ") + ")"
	case "oneof":
		name, typ, _ := strings.Cut(pick(m, divide(inner)...), ":")
		return t + "$make_" + name + "(" + m.expr(typ, depth-1) + ")"
	}
	if l := m.known(t); len(l) > 0 {
		return pick(m, l...)
	}
	return pick(m, "k$none()", "x")
}

// fresh makes a name that no variable of the routine has, but for mistakes.
func (m *maker) fresh() string {
	m.count++
	if m.isWrong() {
		return "x"
	}
	return fmt.Sprint("v", m.count)
}

// inside runs a part of a body, in which variables can be declared that are gone behind it.
func (m *maker) inside(depth int, vars ...api.Part) string {
	before := m.vars
	m.vars = append(slices.Clone(m.vars), vars...)
	s := m.block(depth)
	m.vars = before
	if m.isWrong() {
		m.vars = append(slices.Clone(before), vars...)
	}
	return s
}

func (m *maker) looped(depth int, vars ...api.Part) string {
	before := m.inLoop
	m.inLoop = true
	s := m.inside(depth, vars...)
	m.inLoop = before
	return s
}

func (m *maker) block(depth int) string {
	var l []string
	for range m.IntN(4) {
		l = append(l, m.statement(depth))
	}
	return strings.Join(l, "; ")
}

// loop makes the front of a loop and its variable.
func (m *maker) loop() (string, api.Part) {
	v := api.Part{Name: m.fresh(), Type: "int"}
	over := "upto(" + m.expr("int", 1) + ", " + m.expr("int", 1) + ")"
	switch m.IntN(4) {
	case 0:
		v.Type = m.typ(2)
		over = "items{" + v.Type + "}(" + m.expr("array["+v.Type+"]", 1) + ")"
	case 1:
		v.Type = "coin"
		over = "coin$twice(" + m.expr("coin", 1) + ")"
	case 2:
		v.Type = "bool"
		over = "bag[bool]$each(" + m.expr("bag[bool]", 1) + ")"
	}
	if m.isWrong() {
		over = "inc(1)"
	}
	return "for " + v.Name + ": " + v.Type + " in " + over + " do ", v
}

func (m *maker) statement(depth int) string {
	if m.isWrong() {
		return pick(m, "break", "return", "return 1", "return true", "yield 1", "yield nil", "put up(1)", "put down(x)", "x := 1", "tagcase nil tag l(z: int): end", "if 1 then end", "while nil do end")
	}
	if depth > 0 && m.IntN(2) == 0 {
		return m.nested(depth - 1)
	}
	switch m.IntN(9) {
	case 0, 1:
		v := api.Part{Name: m.fresh(), Type: m.typ(3)}
		s := "var " + v.Name + ": " + v.Type + " := " + m.expr(v.Type, 2)
		m.vars = append(m.vars, v)
		return s
	case 2:
		if len(m.vars) > 0 {
			v := pick(m, m.vars...)
			return v.Name + " := " + m.expr(v.Type, 2)
		}
	case 3:
		t := m.typ(2)
		return m.expr("array["+t+"]", 1) + "[" + m.expr("int", 1) + "] := " + m.expr(t, 1)
	case 4:
		t := m.typ(2)
		if l := m.known("record[l:" + t + ",r:int]"); len(l) > 0 {
			return pick(m, l...) + "." + pick(m, "l := "+m.expr(t, 1), "r := "+m.expr("int", 1))
		}
	case 5:
		return pick(m, "idle()", "inc("+m.expr("int", 1)+")", "bag[int]$store("+m.expr("bag[int]", 1)+", 1, "+m.expr("int", 1)+")", "array[bool]$addh("+m.expr("array[bool]", 1)+", true)")
	case 6:
		return "signal " + pick(m, "bad", "low", "other")
	case 7:
		return m.ending()
	}
	return "put " + m.expr("int", 2)
}

// ending makes what ends a loop or a routine, or gives a value.
func (m *maker) ending() string {
	wrong := m.isWrong()
	switch {
	case m.inLoop != wrong && m.IntN(2) == 0:
		return "break"
	case m.isIter != wrong && m.result != "" && m.IntN(3) > 0:
		return "yield " + m.expr(m.result, 2)
	case (m.isIter || m.result == "") != wrong:
		return "return"
	case m.result == "":
		return "return 1"
	}
	return "return " + m.expr(m.result, 2)
}

// nested makes a statement with parts.
func (m *maker) nested(depth int) string {
	switch m.IntN(6) {
	case 0:
		return "if " + m.expr("bool", 2) + " then " + m.inside(depth) + " end"
	case 1:
		return "if " + m.expr("bool", 2) + " then " + m.inside(depth) + " else " + m.inside(depth) + " end"
	case 2:
		return "while " + m.expr("bool", 2) + " do " + m.looped(depth) + " end"
	case 3:
		front, v := m.loop()
		return front + m.looped(depth, v) + " end"
	case 4:
		return "begin " + m.inside(depth) + " except when bad: " + m.inside(depth) + " when others: " + m.inside(depth) + " end"
	}
	l, r := m.typ(2), m.typ(1)
	s := "tagcase " + m.expr("oneof[l:"+l+",r:"+r+"]", 1)
	for _, part := range []api.Part{{Name: "l", Type: l}, {Name: "r", Type: r}} {
		v := api.Part{Name: m.fresh(), Type: part.Type}
		if m.IntN(4) > 0 || part.Name == "l" {
			s += " tag " + part.Name + "(" + v.Name + ": " + v.Type + "): " + m.inside(depth, v)
		}
		if m.isWrong() {
			s += " tag " + pick(m, "l", "r", "z") + "(" + m.fresh() + ": " + pick(m, "int", r) + "): "
		}
	}
	return s + " end"
}

// routine makes a routine; heads of the town's own shape are given for calls.
func (m *maker) routine(name, bracket, where string) string {
	m.vars, m.count, m.inLoop = nil, 0, false
	m.isIter = m.IntN(3) == 0
	var params []string
	if m.open {
		m.vars = append(m.vars, api.Part{Name: "x", Type: "?t"})
	}
	if m.own != "" {
		m.vars = append(m.vars, api.Part{Name: "me", Type: m.own})
	}
	for range m.IntN(4) {
		m.vars = append(m.vars, api.Part{Name: m.fresh(), Type: m.typ(2)})
	}
	for _, v := range m.vars {
		params = append(params, v.Name+": "+v.Type)
	}
	m.result = ""
	if m.isIter || m.IntN(2) == 0 {
		m.result = m.typ(2)
	}
	s := "proc " + name + bracket + "(" + strings.Join(params, ", ") + ")"
	switch {
	case m.isIter:
		s = "iter" + strings.TrimPrefix(s, "proc") + " yields " + m.result
	case m.result != "":
		s += " returns " + m.result
	}
	if m.IntN(2) == 0 {
		s += " signals (bad, low)"
	}
	return s + where + " is " + m.block(3) + " end\n"
}

// module makes a module with a name.
func (m *maker) module(name string) string {
	m.open, m.own, m.rep = m.IntN(3) == 0, "", ""
	bracket, where := "", ""
	if m.open {
		bracket = "[t]"
		if m.IntN(2) == 0 {
			where = " where t has equal: proc(?t, ?t) returns bool"
		}
	}
	if m.IntN(3) > 0 {
		return m.routine(name, bracket, where)
	}
	m.rep = m.typ(3)
	m.own = name
	if m.open {
		m.own += "[?t]"
	}
	if m.isWrong() {
		m.rep = pick(m, m.own, "k", "a[?t]")
	}
	s := "cluster " + name + bracket + " is f, g" + where + " rep = " + m.rep + " "
	for _, r := range []string{"f", "g", "h", "i"}[:2+m.IntN(3)] {
		s += m.routine(r, "", "")
	}
	return s + "end\n"
}

// modules makes some modules, with the town around them in any order; text that is no source is left.
func (m *maker) modules(t *testing.T) []api.Module {
	for {
		var s strings.Builder
		for _, name := range []string{"a", "k", "z"}[:1+m.IntN(3)] {
			s.WriteString(m.module(name))
		}
		l, f := tree.Parse(s.String())
		switch f.Err {
		case api.OK:
			l = append(l, parse(t, town)...)
			m.Shuffle(len(l), func(i, j int) { l[i], l[j] = l[j], l[i] })
			return l
		case api.ErrParse:
			t.Fatalf("the tests are wrong: %v\n%s", f, s.String())
		}
	}
}

// right makes modules without a fault.
func (m *maker) right(t *testing.T) []api.Module {
	for {
		l := m.modules(t)
		if _, f := plainCheck(l); f == ok {
			return l
		}
	}
}

// bent changes a module so that it is often wrong, or right in another way.
func (m *maker) bent(l []api.Module) []api.Module {
	l = clones(l)
	x := &l[m.IntN(len(l))]
	r := &x.Routines[m.IntN(len(x.Routines))]
	n, other := &r.Nodes[m.IntN(len(r.Nodes))], r.Nodes[m.IntN(len(r.Nodes))]
	switch m.IntN(12) {
	case 0, 1:
		n.Name = other.Name
	case 2:
		n.Type = other.Type
	case 3:
		n.Var = other.Var
	case 4:
		n.Kind = pick(m, other.Kind, api.ExUp, api.ExDown, api.StBreak, api.StReturn)
	case 5:
		n.Name, n.Var, n.Type = other.Name, other.Var, other.Type
	case 6:
		*n = api.Node{Kind: api.ExVar, Name: pick(m, "x", "v1", "v2", "me", "i"), Kids: n.Kids}
	case 7:
		if len(r.Sig.Args) > 0 {
			r.Sig.Args[m.IntN(len(r.Sig.Args))] = m.typ(2)
		}
	case 8:
		r.Sig.Result = pick(m, "", "int", "bool", "?t", m.typ(2))
	case 9:
		if len(r.Params) > 0 {
			r.Params[m.IntN(len(r.Params))] = pick(m, "x", "v1", "v2", "me")
		}
	case 10:
		x.Face.Param = !x.Face.Param
	case 11:
		if x.Rep != "" {
			x.Rep = m.typ(2)
		}
	}
	for i := range x.Face.Ops {
		x.Face.Ops[i].Sig = x.Routines[i].Sig
	}
	return l
}

// clones returns modules in new memory.
func clones(l []api.Module) []api.Module {
	sig := func(s api.Sig) api.Sig {
		s.Args, s.Signals = slices.Clone(s.Args), slices.Clone(s.Signals)
		return s
	}
	l = slices.Clone(l)
	for i, m := range l {
		m.Face.Needs, m.Face.Ops, m.Routines = slices.Clone(m.Face.Needs), slices.Clone(m.Face.Ops), slices.Clone(m.Routines)
		for j, n := range m.Face.Needs {
			m.Face.Needs[j].Sig = sig(n.Sig)
		}
		for j, o := range m.Face.Ops {
			m.Face.Ops[j].Sig = sig(o.Sig)
		}
		for j, r := range m.Routines {
			r.Sig, r.Params, r.Nodes = sig(r.Sig), slices.Clone(r.Params), slices.Clone(r.Nodes)
			for k, n := range r.Nodes {
				r.Nodes[k].Kids = slices.Clone(n.Kids)
			}
			m.Routines[j] = r
		}
		l[i] = m
	}
	return l
}
