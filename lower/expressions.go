package lower

import (
	"argus/api"
	"argus/kind"
)

// expression makes the code of a node of its kind, whose value comes into a register: one that is given, or anywhere; nowhere if it is not asked for. It returns the register.
type expression func(m *maker, n api.Node, into int) int

func expressions() map[uint8]expression {
	return map[uint8]expression{
		api.ExInt:  (*maker).word,
		api.ExBool: (*maker).word,
		api.ExNil:  (*maker).word,
		api.ExVar:  (*maker).variable,
		api.ExCall: (*maker).call,
		api.ExUp:   (*maker).same,
		api.ExDown: (*maker).same,
	}
}

func (m *maker) evaluate(i, into int) int {
	n := m.core.Nodes[i]
	return m.expressions[n.Kind](m, n, into)
}

// value returns the register with the value of a node.
func (m *maker) value(i int) int { return m.evaluate(i, anywhere) }

func (m *maker) all(nodes []int) []int {
	var l []int
	for _, i := range nodes {
		l = append(l, m.value(i))
	}
	return l
}

func (m *maker) word(n api.Node, into int) int {
	to := m.place(into, api.RegWord)
	m.add(api.Ins{Op: api.InsWord, To: to, N: n.N})
	return to
}

// variable reads a slot where it is: no expression changes one.
func (m *maker) variable(n api.Node, into int) int {
	if into < 0 {
		return n.N
	}
	m.add(api.Ins{Op: api.InsMove, To: into, A: n.N})
	return into
}

// same is the rule of nodes that change the type of their kid alone.
func (m *maker) same(n api.Node, into int) int { return m.evaluate(n.Kids[0], into) }

func (m *maker) call(n api.Node, into int) int {
	args := m.all(n.Kids)
	callee := calleeOf(n)
	if callee == "" {
		return m.operate(n, args, into)
	}
	to := nowhere
	if n.Type != "" && into != nowhere {
		to = m.place(into, m.kindOf(n.Type))
	}
	m.pass(api.End{Kind: api.EndCall, Name: callee, Args: args, A: to, Whens: m.whens(m.signalsOf(callee)...)})
	return to
}

// operate makes the code of an operation that is built in.
func (m *maker) operate(n api.Node, args []int, into int) int {
	of, _ := kind.Kind(n.Var)
	verb, part := split(n.Name)
	b, _ := find(of, verb)
	x := api.Ins{Op: b.op}
	if n.Type != "" {
		x.To = m.place(into, m.kindOf(n.Type))
	}
	if part != "" {
		x.N = partOf(n.Var, part)
	}
	switch b.op {
	case api.InsTag:
		m.add(api.Ins{Op: b.op, To: x.To, A: args[0]})
		m.compare(x.To, x.To, x.N)
		return x.To
	case api.InsMake:
		x.Args = args
	case api.InsNew:
		element, _, _ := kind.Arg(n.Var)
		if m.kindOf(element) == api.RegRef {
			x.N = 1
		}
	default:
		x = withOperands(x, args)
	}
	if b.signal == "" {
		m.add(x)
	} else {
		m.pass(api.End{Kind: api.EndTry, Ins: x, Whens: m.whens(b.signal)})
	}
	return x.To
}

// withOperands puts arguments into A, B and Args of an instruction.
func withOperands(x api.Ins, args []int) api.Ins {
	x.A = args[0]
	if len(args) > 1 {
		x.B = args[1]
		x.Args = args[2:]
	}
	return x
}

// compare makes To, which may be the spare word, tell whether another word is a number.
func (m *maker) compare(to, word, number int) {
	other := m.spareWord()
	m.add(api.Ins{Op: api.InsWord, To: other, N: number})
	m.add(api.Ins{Op: api.InsEq, To: to, A: word, B: other})
}
