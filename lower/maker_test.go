package lower_test

import (
	"math/rand/v2"
	"testing"

	"argus/api"
	"argus/check"
	"argus/sample"
)

// node is a node of a core with its kids, which has no number yet.
type node struct {
	api.Node
	kids []*node
}

func newNode(kind uint8, kids ...*node) *node { return &node{api.Node{Kind: kind}, kids} }

// numbered returns the nodes in postorder, the last one a StSeq of some statements.
func numbered(statements ...*node) []api.Node {
	var l []api.Node
	var number func(n *node) int
	number = func(n *node) int {
		x := n.Node
		x.Kids = nil
		for _, k := range n.kids {
			x.Kids = append(x.Kids, number(k))
		}
		l = append(l, x)
		return len(l) - 1
	}
	number(seq(statements...))
	return l
}

func seq(l ...*node) *node { return newNode(api.StSeq, l...) }

func (n *node) named(name string) *node {
	n.Name = name
	return n
}

func (n *node) of(slot int) *node {
	n.N = slot
	return n
}

func (n *node) typed(t string) *node {
	n.Type = t
	return n
}

func num(n int) *node { return newNode(api.ExInt).of(n).typed("int") }

func variable(slot int, t string) *node { return newNode(api.ExVar).of(slot).typed(t) }

// callOf is a call of a module.
func callOf(module, result string, args ...*node) *node {
	n := newNode(api.ExCall, args...).of(1).typed(result)
	n.Var = module
	return n
}

// opOf is a call of an operation of a type.
func opOf(t, op, result string, args ...*node) *node {
	n := newNode(api.ExCall, args...).named(op).typed(result)
	n.Var = t
	return n
}

func do(call *node) *node { return newNode(api.StDo, call) }

func when(name string, statements ...*node) *node {
	return newNode(api.StWhen, seq(statements...)).named(name)
}

// withMain returns a program in which main has other variables and another body.
func withMain(t *testing.T, p api.Program, slots []string, statements ...*node) api.Program {
	t.Helper()
	p = copied(p)
	for i := range p.Cores {
		if c := &p.Cores[i]; c.Name == "main" {
			c.Slots = append(c.Slots[:len(c.Sig.Args)], slots...)
			c.Nodes = numbered(statements...)
			if len(c.Nodes) > api.MaxCore {
				t.Fatalf("%d nodes", len(c.Nodes))
			}
		}
	}
	if check.CheckProgram(p) != api.OK {
		t.Fatalf("not valid: %v", p.Cores)
	}
	return p
}

// worker is where the modules come from that large bodies use. Its main has two parameters.
const worker = `
cluster ring is wrap rep = oneof[a:int,b:ring] proc wrap(o: oneof[a:int,b:ring]) returns ring is return up(o) end end
iter give() yields int signals (a, b, c, d, e, f) is yield 3; put 7; yield 0; signal b end
iter few(n: int) yields int is var i: int := 0; while i < n do i := i + 1; yield i end end
proc p() returns bool signals (a, b, c, d, e, f) is return false end
proc q(n: int) returns int signals (a, b, c, d, e, f) is put n; if n = 1 then signal a end; if n = 2 then signal f end; if n = 3 then signal x end; return n + 1 end
proc main(n: int, b: bool) returns int signals (a, overflow) is return 0 end
`

// bodies makes bodies of main of the worker by chance, whose variables are those of slotsOfBodies: they are read and written anywhere.
type bodies struct {
	*rand.Rand
	left  int
	loops int
}

const pairs = "record[l:int,r:array[int]]"
const sums = "oneof[a:int,b:array[int]]"

// slotsOfBodies are the types of the slots, those of the parameters among them.
func slotsOfBodies() []string {
	return []string{"int", "bool", "int", "int", "array[int]", pairs, sums, "null"}
}

// beginning gives values to all variables.
func beginning() []*node {
	set := func(slot int, e *node) *node { return newNode(api.StSet, e).of(slot) }
	array := func() *node { return opOf("array[int]", "new", "array[int]") }
	return []*node{
		set(2, num(1)), set(3, num(2)), set(4, array()),
		set(5, opOf(pairs, "make", pairs, num(3), variable(4, "array[int]"))),
		set(6, opOf(sums, "make_a", sums, num(3))),
		set(7, newNode(api.ExNil).typed("null")),
	}
}

// body makes a body of at most so many nodes.
func (m *bodies) body(nodes int) []*node {
	m.left = nodes - 30
	l := beginning()
	for m.left > 0 {
		x := m.statement(12)
		if m.IntN(8) > 0 {
			// What comes behind a signal is to be done, too.
			x = newNode(api.StExcept, seq(x), when("", newNode(api.StPut, m.read("int"))))
			m.left -= 6
		}
		l = append(l, x)
	}
	return append(l, newNode(api.StReturn, m.read("int")))
}

// slot chooses a variable of a type.
func (m *bodies) slot(t string) int {
	var l []int
	for i, x := range slotsOfBodies() {
		if x == t {
			l = append(l, i)
		}
	}
	return l[m.IntN(len(l))]
}

func (m *bodies) read(t string) *node { return variable(m.slot(t), t) }

// value makes an expression.
func (m *bodies) value(t string, depth int) *node {
	m.left--
	if depth == 0 || m.left < 0 || m.IntN(3) == 0 {
		return m.read(t)
	}
	m.left -= 2
	value := func(t string) *node { return m.value(t, depth-1) }
	switch t {
	case "int":
		switch m.IntN(8) {
		case 0:
			return callOf("q", t, value(t))
		case 1:
			return opOf("array[int]", sample.Pick(m, "size", "remh"), t, value("array[int]"))
		case 2:
			return opOf("array[int]", "fetch", t, value("array[int]"), value(t))
		case 3:
			return opOf(pairs, "get_l", t, value(pairs))
		case 4:
			return num(m.IntN(4))
		}
		return opOf(t, sample.Pick(m, "add", "sub", "mul", "div", "mod"), t, value(t), value(t))
	case "bool":
		switch m.IntN(5) {
		case 0:
			return callOf("p", t)
		case 1:
			return opOf(sums, sample.Pick(m, "is_a", "is_b"), t, value(sums))
		case 2:
			of := sample.Pick(m, "int", "null", "array[int]", pairs, sums)
			return opOf(of, "equal", t, value(of), value(of))
		case 3:
			return opOf(t, "not", t, value(t))
		}
		return opOf("int", sample.Pick(m, "lt", "le"), t, value("int"), value("int"))
	case "array[int]":
		if m.IntN(2) == 0 {
			return opOf(pairs, "get_r", t, value(pairs))
		}
		return opOf(t, "new", t)
	case pairs:
		return opOf(t, "make", t, value("int"), value("array[int]"))
	case sums:
		if m.IntN(2) == 0 {
			return opOf(t, "make_a", t, value("int"))
		}
		return opOf(t, "make_b", t, value("array[int]"))
	}
	return newNode(api.ExNil).typed("null")
}

func (m *bodies) sequence(depth int) *node {
	m.left--
	s := seq()
	for range 1 + m.IntN(3) {
		if m.left > 0 {
			s.kids = append(s.kids, m.statement(depth-1))
		}
	}
	return s
}

// statement makes a statement that has others inside it, or a plain one.
func (m *bodies) statement(depth int) *node {
	m.left -= 2
	if depth <= 0 || m.IntN(3) == 0 {
		return m.plain()
	}
	switch m.IntN(8) {
	case 0:
		return newNode(api.StIf, m.value("bool", 2), m.sequence(depth))
	case 1:
		return newNode(api.StIf, m.value("bool", 2), m.sequence(depth), m.sequence(depth))
	case 2:
		m.loops++
		defer func() { m.loops-- }()
		return newNode(api.StWhile, m.value("bool", 2), m.sequence(depth))
	case 3, 4:
		call := callOf("few", "int", m.value("int", 1))
		if m.IntN(3) == 0 {
			call = callOf("give", "int")
		}
		m.loops++
		defer func() { m.loops-- }()
		return newNode(api.StFor, call, m.sequence(depth)).of(m.slot("int"))
	case 5:
		n := newNode(api.StCase, m.value(sums, 1))
		for _, part := range sample.Pick(m, "ab", "ba", "a", "b") {
			t := map[rune]string{'a': "int", 'b': "array[int]"}[part]
			n.kids = append(n.kids, newNode(api.StArm, m.sequence(depth)).named(string(part)).of(m.slot(t)))
			m.left--
		}
		return n
	}
	n := newNode(api.StExcept, m.sequence(depth))
	for range 1 + m.IntN(3) {
		n.kids = append(n.kids, newNode(api.StWhen, m.sequence(depth)).named(m.signal()))
		m.left--
	}
	if m.IntN(2) == 0 {
		n.kids = append(n.kids, newNode(api.StWhen, m.sequence(depth)))
	}
	return n
}

func (m *bodies) signal() string {
	return sample.Pick(m, "a", "b", "f", "bounds", "overflow", "zerodivide", "failure")
}

// plain makes a statement without others inside it.
func (m *bodies) plain() *node {
	switch m.IntN(14) {
	case 0:
		return do(opOf("array[int]", "addh", "", m.value("array[int]", 1), m.value("int", 2)))
	case 1:
		return do(opOf("array[int]", "store", "", m.value("array[int]", 1), m.value("int", 1), m.value("int", 2)))
	case 2:
		return do(opOf(pairs, "set_l", "", m.value(pairs, 1), m.value("int", 2)))
	case 3:
		return do(opOf(pairs, "set_r", "", m.value(pairs, 1), m.value("array[int]", 2)))
	case 4:
		return do(callOf("q", "int", m.value("int", 1)))
	case 5, 6:
		return newNode(api.StPut, m.value("int", 2))
	case 7:
		if m.loops > 0 {
			return newNode(api.StBreak)
		}
	case 8:
		if m.IntN(3) == 0 {
			return newNode(api.StReturn, m.value("int", 2))
		}
		return newNode(api.StSignal).named(m.signal())
	}
	t := sample.Pick(m, slotsOfBodies()...)
	return newNode(api.StSet, m.value(t, 3)).of(m.slot(t))
}
