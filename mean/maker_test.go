package mean_test

import (
	"fmt"
	"math/rand/v2"
	"slices"
	"strings"
	"testing"

	"argus/api"
	"argus/check"
	"argus/tree"
)

// maker makes modules by chance, the same in each run: texts of modules that use the town, and values for them.
type maker struct {
	*rand.Rand
	routines []routine
	names    int
	// of the routine that is made:
	open, isIter, inLoop bool
	own, rep, result     string
	vars                 []api.Part
}

// routine is one that can be called: its reference has a ?t for the parameter, if it has one.
type routine struct {
	ref     string
	hasArg  bool
	isIter  bool
	args    []string
	result  string
	signals []string
}

func newMaker(seed uint64) *maker {
	return &maker{Rand: rand.New(rand.NewPCG(seed, 6))}
}

func pick[T any](m *maker, l ...T) T { return l[m.IntN(len(l))] }

func (m *maker) fresh(front string) string {
	m.names++
	return fmt.Sprint(front, m.names)
}

// comparable makes a type that has equal.
func (m *maker) comparable() string {
	return pick(m, "int", "int", "bool", "coin", "null", "array[int]", "record[l:int,r:bool]", "oneof[l:int,r:null]")
}

// typ makes a type of at most so many levels, which are those of what is made of it too.
func (m *maker) typ(levels int) string {
	switch {
	case m.open && m.IntN(3) == 0:
		return "?t"
	case m.own != "" && m.IntN(4) == 0:
		return m.own
	case levels <= 1 || m.IntN(3) == 0:
		return pick(m, "int", "int", "int", "bool", "null", "coin", "count")
	}
	inner := m.typ(levels - 1)
	switch m.IntN(7) {
	case 0, 1:
		return "array[" + inner + "]"
	case 2:
		return "record[l:" + inner + ",r:" + m.typ(1) + "]"
	case 3:
		return "oneof[l:" + inner + ",r:" + m.typ(1) + "]"
	case 4:
		return "bag[" + m.comparable() + "]"
	case 5:
		return "list[" + inner + "]"
	}
	return "box[" + inner + "]"
}

// sig makes the front of a routine with the variables of its parameters, and adds the routine to those that can be called.
func (m *maker) sig(ref string, isIter bool) (string, routine) {
	r := routine{ref: ref, hasArg: m.open, isIter: isIter}
	m.vars = nil
	var params []string
	if m.own != "" {
		m.vars = append(m.vars, api.Part{Name: m.fresh("v"), Type: m.own})
	}
	if m.open {
		m.vars = append(m.vars, api.Part{Name: m.fresh("v"), Type: "?t"})
	}
	for range m.IntN(3) {
		m.vars = append(m.vars, api.Part{Name: m.fresh("v"), Type: m.typ(3)})
	}
	for _, v := range m.vars {
		params = append(params, v.Name+": "+v.Type)
		r.args = append(r.args, v.Type)
	}
	if isIter || m.IntN(3) > 0 {
		r.result = m.typ(3)
	}
	for _, s := range []string{"bounds", "high", "low", "overflow", "zerodivide"} {
		if m.IntN(2) == 0 {
			r.signals = append(r.signals, s)
		}
	}
	head := "(" + strings.Join(params, ", ") + ")"
	if r.result != "" {
		head += map[bool]string{false: " returns ", true: " yields "}[isIter] + r.result
	}
	if len(r.signals) > 0 {
		head += " signals (" + strings.Join(r.signals, ", ") + ")"
	}
	m.routines = append(m.routines, r)
	return head, r
}

// body makes the body of a routine.
func (m *maker) body(r routine) string {
	m.isIter, m.result, m.inLoop = r.isIter, r.result, false
	s := m.block(2)
	if r.isIter {
		return s + "; yield " + m.expr(r.result, 2)
	}
	if r.result != "" && m.IntN(8) > 0 {
		return s + "; return " + m.expr(r.result, 2)
	}
	return s
}

// module makes a procedure, an iterator or a cluster.
func (m *maker) module() string {
	name := m.fresh("m")
	m.own, m.rep = "", ""
	m.open = m.IntN(3) == 0
	isIter := m.IntN(3) == 0
	word := map[bool]string{false: "proc ", true: "iter "}[isIter]
	if !m.open {
		head, r := m.sig(name, isIter)
		return word + name + head + " is " + m.body(r) + " end"
	}
	if m.IntN(3) > 0 {
		head, r := m.sig(name+"{?t}", isIter)
		return word + name + "[t]" + head + " where t has equal: proc(?t, ?t) returns bool is " + m.body(r) + " end"
	}
	rep := m.typ(3)
	m.own, m.rep = name+"[?t]", rep
	var names, routines []string
	for i, isIter := range []bool{false, false, true} {
		op := string(rune('f' + i))
		word := map[bool]string{false: "proc ", true: "iter "}[isIter]
		head, r := m.sig(m.own+"$"+op, isIter)
		names = append(names, op)
		routines = append(routines, word+op+head+" is "+m.body(r)+" end")
	}
	made := routine{ref: m.own + "$make", hasArg: true, args: []string{rep}, result: m.own}
	m.routines = append(m.routines, made)
	routines = append(routines, "proc make(x: "+rep+") returns "+m.own+" is return up(x) end")
	s := "cluster " + name + "[t] is " + strings.Join(names, ", ") + ", make where t has equal: proc(?t, ?t) returns bool rep = " + rep + " " + strings.Join(routines, " ") + " end"
	m.own, m.rep = "", ""
	return s
}

// program makes a program of the town and some modules; a few have too many nodes, and are made again.
func (m *maker) program(t *testing.T) (api.Program, string) {
	t.Helper()
	for range 100 {
		m.routines = nil
		var sources []string
		for range 4 {
			sources = append(sources, m.module())
		}
		source := strings.Join(sources, "\n")
		l, f := tree.Parse(town + source)
		if f.Err == api.ErrTree || f.Err == api.ErrLimit {
			continue
		}
		p, g := check.Check(l)
		if f.Err != api.OK || g.Err != api.OK {
			t.Fatalf("%v, %v:\n%s", f, g, source)
		}
		return p, source
	}
	t.Fatal("no program")
	return api.Program{}, ""
}

// with puts an argument into what can be called.
func (r routine) with(arg string) routine {
	put := func(s string) string { return strings.ReplaceAll(s, "?t", arg) }
	r.ref, r.result, r.args = put(r.ref), put(r.result), slices.Clone(r.args)
	for i := range r.args {
		r.args[i] = put(r.args[i])
	}
	return r
}

// argument makes what can stand in the place of a parameter in the routine that is made.
func (m *maker) argument() string {
	if m.open && m.IntN(2) == 0 {
		return "?t"
	}
	return m.comparable()
}

// callOf makes a call of a routine.
func (m *maker) callOf(r routine, depth int) string {
	var args []string
	for _, a := range r.args {
		args = append(args, m.expr(a, depth))
	}
	return r.ref + "(" + strings.Join(args, ", ") + ")"
}

// called makes a call with a result of a type (or any, if it is empty), or nothing.
func (m *maker) called(t string, depth int) string {
	for _, i := range m.Perm(len(m.routines)) {
		r := m.routines[i]
		if r.hasArg {
			r = r.with(m.argument())
		}
		if !r.isIter && (t == "" || r.result == t) {
			return m.callOf(r, depth)
		}
	}
	return ""
}

func (m *maker) known(t string) []string {
	var l []string
	for _, v := range m.vars {
		if v.Type == t {
			l = append(l, v.Name)
		}
	}
	return l
}

// isSmall reports whether a type can stand inside another one.
func isSmall(t string) bool { return strings.Count(t, "[") < 3 && len(t) < 40 }

// expr makes an expression of a type.
func (m *maker) expr(t string, depth int) string {
	if l := m.known(t); len(l) > 0 && m.IntN(5) > 1 {
		return pick(m, l...)
	}
	if depth > 0 && m.IntN(4) == 0 {
		if s := m.called(t, depth-1); s != "" {
			return s
		}
	}
	if depth > 0 && m.IntN(6) == 0 && isSmall(t) {
		return m.taken(t, depth-1)
	}
	if depth > 0 && m.IntN(5) > 0 {
		if s := m.operated(t, depth-1); s != "" {
			return "(" + s + ")"
		}
	}
	return m.made(t, depth)
}

// taken makes an expression that takes a value out of an object.
func (m *maker) taken(t string, depth int) string {
	switch m.IntN(5) {
	case 0:
		return "box[" + t + "]$get(" + m.expr("box["+t+"]", depth) + ")"
	case 1:
		return m.expr("record[l:"+t+",r:int]", depth) + ".l"
	case 2:
		return "list[" + t + "]$head(list[" + t + "]$cons(" + m.expr(t, depth) + ", " + m.expr("list["+t+"]", depth) + "))"
	case 3:
		return "array[" + t + "]$remh(" + m.expr("array["+t+"]", depth+1) + ")"
	}
	return m.expr("array["+t+"]", depth+1) + "[" + m.index() + "]"
}

// index makes an int that is often within the bounds of an array.
func (m *maker) index() string {
	if m.IntN(5) > 0 {
		return fmt.Sprint(1 + m.IntN(3))
	}
	return m.expr("int", 0)
}

// operated makes an expression with an operator or a call of the town, without parentheses around it, or nothing.
func (m *maker) operated(t string, depth int) string {
	two := func(t string, ops ...string) string {
		return m.expr(t, depth) + " " + pick(m, ops...) + " " + m.expr(t, depth)
	}
	same := m.comparable()
	switch {
	case t == "int":
		return pick(m, two("int", "+", "-", "*", "/", "mod"), two("int", "+", "-"), "say("+m.expr("int", depth)+")", "least{int}("+m.expr("int", depth)+", 2)", "array["+same+"]$size("+m.expr("array["+same+"]", depth)+")", "count$next("+m.expr("count", depth)+")", "bag["+same+"]$size("+m.expr("bag["+same+"]", depth)+")")
	case t == "bool":
		return pick(m, two("int", "<", "<=", "="), two("bool", "and", "or", "="), "not "+m.expr("bool", depth), two(same, "="), "coin$heads("+m.expr("coin", depth)+")", "bag["+same+"]$holds("+m.expr("bag["+same+"]", depth)+", "+m.expr(same, depth)+")")
	case t == m.own && m.own != "":
		return "up(" + m.expr(m.rep, depth) + ")"
	case t == m.rep && m.own != "":
		return "down(" + m.expr(m.own, depth) + ")"
	}
	return ""
}

// made makes an expression that makes a value of a type.
func (m *maker) made(t string, depth int) string {
	front, inner, _ := strings.Cut(strings.TrimSuffix(t, "]"), "[")
	switch front {
	case "int":
		return fmt.Sprint(pick(m, m.IntN(4), m.IntN(4), m.IntN(4), m.IntN(4), m.IntN(100), 1000000000-m.IntN(2)))
	case "bool":
		return pick(m, "true", "false")
	case "null":
		return "nil"
	case "coin":
		return "coin$make(" + m.expr("bool", depth-1) + ")"
	case "array":
		if depth > 0 && isSmall(t) {
			return "trio{" + inner + "}(" + m.expr(inner, depth-1) + ", " + m.expr(inner, depth-1) + ")"
		}
		return t + "$new()"
	case "bag":
		if depth > 0 && isSmall(t) {
			return t + "$from(" + m.expr("array["+inner+"]", depth-1) + ")"
		}
		return t + "$new()"
	case "count":
		return t + "$new()"
	case "box":
		return t + "$new(" + m.expr(inner, depth-1) + ")"
	case "list":
		if depth <= 0 || m.IntN(3) == 0 {
			return t + "$empty()"
		}
		return t + "$cons(" + m.expr(inner, depth-1) + ", " + m.expr(t, depth-1) + ")"
	case "record":
		_, types := divided(t)
		var l []string
		for _, x := range types {
			l = append(l, m.expr(x, depth-1))
		}
		return t + "$make(" + strings.Join(l, ", ") + ")"
	case "oneof":
		names, types := divided(t)
		i := m.IntN(len(names))
		return t + "$make_" + names[i] + "(" + m.expr(types[i], depth-1) + ")"
	}
	return m.abstract(t, depth)
}

// abstract makes a value of the parameter or of a cluster that was made.
func (m *maker) abstract(t string, depth int) string {
	if l := m.known(t); len(l) > 0 {
		return pick(m, l...)
	}
	front, arg, hasArg := strings.Cut(strings.TrimSuffix(t, "]"), "[")
	for _, r := range m.routines {
		if strings.HasPrefix(r.ref, front+"[?t]$make") && hasArg {
			return m.callOf(r.with(arg), min(depth, 1)-1)
		}
	}
	// There is no value of a cluster whose make comes later: what is in an array that is empty is a signal.
	return "array[" + t + "]$new()[1]"
}

// inside makes a block in which more variables can be used.
func (m *maker) inside(depth int, inLoop bool, vars ...api.Part) string {
	before, wasInLoop := m.vars, m.inLoop
	m.vars = append(slices.Clone(m.vars), vars...)
	m.inLoop = m.inLoop || inLoop
	s := m.block(depth)
	m.vars, m.inLoop = before, wasInLoop
	return s
}

func (m *maker) block(depth int) string {
	var l []string
	for range 1 + m.IntN(2) {
		if depth > 0 && m.IntN(2) == 0 {
			l = append(l, m.nested(depth-1))
		} else {
			l = append(l, m.statement())
		}
	}
	return strings.Join(l, "; ")
}

func (m *maker) statement() string {
	switch m.IntN(12) {
	case 0, 1, 2:
		v := api.Part{Name: m.fresh("v"), Type: m.typ(3)}
		s := "var " + v.Name + ": " + v.Type + " := " + m.expr(v.Type, 2)
		m.vars = append(m.vars, v)
		return s
	case 3, 4:
		if len(m.vars) > 0 {
			v := pick(m, m.vars...)
			return v.Name + " := " + m.expr(v.Type, 2)
		}
	case 5:
		t := m.typ(2)
		return m.expr("array["+t+"]", 2) + "[" + m.index() + "] := " + m.expr(t, 1)
	case 6:
		t := m.typ(2)
		return "array[" + t + "]$addh(" + m.expr("array["+t+"]", 1) + ", " + m.expr(t, 1) + ")"
	case 7:
		t := m.typ(2)
		return pick(m, "box["+t+"]$set("+m.expr("box["+t+"]", 1)+", "+m.expr(t, 1)+")", m.expr("record[l:"+t+",r:int]", 1)+".l := "+m.expr(t, 1))
	case 8:
		if s := m.called("", 1); s != "" {
			return s
		}
	case 9:
		return m.leaving()
	}
	return "put " + m.expr("int", 2)
}

// leaving makes a statement that leaves something, or gives something.
func (m *maker) leaving() string {
	switch m.IntN(4) {
	case 0:
		return "signal " + pick(m, "bounds", "high", "low", "failure", "other")
	case 1:
		if m.inLoop {
			return "break"
		}
	case 2:
		if m.isIter || m.result == "" {
			return "return"
		}
		return "return " + m.expr(m.result, 1)
	}
	if m.isIter {
		return "yield " + m.expr(m.result, 1)
	}
	return "put " + m.expr("int", 1)
}

// nested makes a statement with blocks.
func (m *maker) nested(depth int) string {
	switch m.IntN(7) {
	case 0:
		return "if " + m.expr("bool", 2) + " then " + m.inside(depth, false) + pick(m, "", " else "+m.inside(depth, false)) + " end"
	case 1:
		v := api.Part{Name: m.fresh("v"), Type: "int"}
		return "var " + v.Name + ": int := 0; while " + v.Name + " < " + fmt.Sprint(m.IntN(4)) + " do " + v.Name + " := " + v.Name + " + 1; " + m.inside(depth, true, v) + " end"
	case 2:
		return "while " + m.expr("bool", 2) + " do " + m.inside(depth, true) + pick(m, "", "; break", "; break") + " end"
	case 3, 4:
		v, over := m.loop()
		return "for " + v.Name + ": " + v.Type + " in " + over + " do " + m.inside(depth, true, v) + " end"
	case 5:
		s := "begin " + m.inside(depth, false) + " except"
		for _, name := range []string{"bounds", "low", "failure"} {
			if m.IntN(2) == 0 {
				s += " when " + name + ": " + m.inside(depth, false)
			}
		}
		return s + " when " + pick(m, "others", "zerodivide") + ": " + m.inside(depth, false) + " end"
	}
	t := "oneof[l:" + m.typ(2) + ",r:" + m.typ(1) + "]"
	names, types := divided(t)
	s := "tagcase " + m.expr(t, 2)
	for i := range pick(m, 1, 2, 2, 2) {
		v := api.Part{Name: m.fresh("v"), Type: types[i]}
		s += " tag " + names[i] + "(" + v.Name + ": " + v.Type + "): " + m.inside(depth, false, v)
	}
	return s + " end"
}

// loop makes a variable, and the call of an iterator.
func (m *maker) loop() (api.Part, string) {
	v := api.Part{Name: m.fresh("v"), Type: "int"}
	switch m.IntN(4) {
	case 0:
		v.Type = m.typ(2)
		return v, "items{" + v.Type + "}(" + m.expr("array["+v.Type+"]", 1) + ")"
	case 1:
		for _, i := range m.Perm(len(m.routines)) {
			if r := m.routines[i]; r.isIter {
				if r.hasArg {
					r = r.with(m.argument())
				}
				v.Type = r.result
				return v, m.callOf(r, 1)
			}
		}
	case 2:
		v.Type = m.comparable()
		return v, "list[" + v.Type + "]$each(" + m.expr("list["+v.Type+"]", 2) + ")"
	}
	return v, "upto(" + fmt.Sprint(m.IntN(3)) + ", " + m.expr("int", 1) + ")"
}

// world is a heap that is made, with the bottoms of its objects.
type world struct {
	*maker
	p       api.Program
	heap    []api.Obj
	bottoms []string
}

// value makes a value of a closed type, and the objects that it needs, or takes those that there are.
func (w *world) value(t string, depth int) (api.Value, bool) {
	t = plainBottom(w.p, t)
	front, inner, _ := strings.Cut(strings.TrimSuffix(t, "]"), "[")
	switch front {
	case "int":
		return api.Value{Kind: api.ValInt, N: pick(w.maker, w.IntN(4), w.IntN(100)-50, 1000000000)}, true
	case "bool":
		return api.Value{Kind: api.ValBool, N: w.IntN(2)}, true
	case "null":
		return api.Value{Kind: api.ValNil}, true
	}
	at := len(w.heap)
	for i, b := range w.bottoms {
		if b == t && (depth < 0 || w.IntN(3) == 0) {
			return api.Value{Kind: api.ValRef, N: i}, true
		}
	}
	if t == "" || depth < -5 {
		return api.Value{}, false
	}
	w.heap, w.bottoms = append(w.heap, api.Obj{}), append(w.bottoms, t)
	o := api.Obj{Kind: api.ObjArray}
	var types []string
	names, parts := divided(t)
	switch front {
	case "array":
		if depth > 0 {
			types = slices.Repeat([]string{inner}, w.IntN(4))
		}
	case "record":
		o.Kind, types = api.ObjRecord, parts
	case "oneof":
		o.Kind, o.Tag = api.ObjOneof, w.IntN(len(names))
		types = parts[o.Tag:][:1]
	}
	for _, x := range types {
		v, isThere := w.value(x, depth-1)
		if !isThere {
			return api.Value{}, false
		}
		o.Vals = append(o.Vals, v)
	}
	w.heap[at] = o
	return api.Value{Kind: api.ValRef, N: at}, true
}

// values makes values of types, with a heap.
func (m *maker) values(p api.Program, types []string) ([]api.Obj, []api.Value, bool) {
	w := &world{maker: m, p: p}
	var l []api.Value
	for _, t := range types {
		v, isThere := w.value(t, 3)
		if !isThere {
			return nil, nil, false
		}
		l = append(l, v)
	}
	return w.heap, l, true
}
