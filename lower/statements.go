package lower

import (
	"slices"

	"argus/api"
	"argus/kind"
)

// statement makes the code of a node of its kind.
type statement func(m *maker, n api.Node)

func statements() map[uint8]statement {
	return map[uint8]statement{
		api.StSeq:    (*maker).sequence,
		api.StSet:    (*maker).set,
		api.StDo:     (*maker).drop,
		api.StIf:     (*maker).choose,
		api.StWhile:  (*maker).repeat,
		api.StFor:    (*maker).iterate,
		api.StReturn: (*maker).giveBack,
		api.StYield:  (*maker).yield,
		api.StSignal: (*maker).signalName,
		api.StExcept: (*maker).protect,
		api.StBreak:  (*maker).breakOut,
		api.StCase:   (*maker).tell,
		api.StPut:    (*maker).putOut,
	}
}

// do makes the code of a statement, if it is ever done.
func (m *maker) do(i int) {
	if m.at == nowhere {
		return
	}
	n := m.core.Nodes[i]
	m.statements[n.Kind](m, n)
}

func (m *maker) sequence(n api.Node) {
	for _, k := range n.Kids {
		m.do(k)
	}
}

func (m *maker) set(n api.Node) { m.evaluate(n.Kids[0], n.N) }

func (m *maker) drop(n api.Node) { m.evaluate(n.Kids[0], nowhere) }

func (m *maker) choose(n api.Node) {
	is := m.value(n.Kids[0])
	then, otherwise := m.newBlock(), m.newBlock()
	m.end(api.End{Kind: api.EndIf, A: is, To: then, Else: otherwise})
	m.meet(m.within(then, n.Kids[1]), m.within(otherwise, n.Kids[2:]...))
}

func (m *maker) repeat(n api.Node) {
	if !m.canBegin(m.at) {
		m.pass(api.End{Kind: api.EndGoto})
	}
	head := m.at
	is := m.value(n.Kids[0])
	body, exit := m.newBlock(), m.newBlock()
	m.end(api.End{Kind: api.EndIf, A: is, To: body, Else: exit})
	m.inside(&loop{outside{m.around}, exit}, m.within(body, n.Kids[1]))
	m.goBack(head)
	m.at = exit
}

func (m *maker) iterate(n api.Node) {
	call := m.core.Nodes[n.Kids[0]]
	callee := calleeOf(call)
	args := m.all(call.Kids)
	register := m.fresh(api.RegIter)
	m.pass(api.End{Kind: api.EndOpen, Name: callee, Args: args, A: register})
	head := m.at
	body, exit := m.newBlock(), m.newBlock()
	m.end(api.End{Kind: api.EndNext, A: register, B: n.N, To: body, Else: exit, Whens: m.whens(m.signalsOf(callee)...)})
	m.inside(&iteration{outside{m.around}, exit, register}, m.within(body, n.Kids[1]))
	m.goBack(head)
	m.at = exit
}

// giveBack ends the routine, and with it all iterations that it has begun.
func (m *maker) giveBack(n api.Node) {
	value := nowhere
	if len(n.Kids) > 0 {
		value = m.value(n.Kids[0])
	}
	m.end(api.End{Kind: api.EndReturn, A: value})
}

func (m *maker) yield(n api.Node) {
	value := m.value(n.Kids[0])
	m.pass(api.End{Kind: api.EndYield, A: value})
}

func (m *maker) signalName(n api.Node) { m.signal(n.Name) }

// protect makes handlers behind what they are for: it is known then whether a signal comes to them.
func (m *maker) protect(n api.Node) {
	whens := n.Kids[1:]
	g := &guard{outside{m.around}, whens, slices.Repeat([]int{nowhere}, len(whens))}
	ways := []func(){func() { m.inside(g, m.within(m.at, n.Kids[0])) }}
	for i, k := range whens {
		ways = append(ways, func() {
			m.at = g.blocks[i]
			m.do(m.core.Nodes[k].Kids[0])
		})
	}
	m.meet(ways...)
}

// tell asks for the parts one after the other. Where all have an arm the last one needs no question.
func (m *maker) tell(n api.Node) {
	of := m.value(n.Kids[0])
	t := m.core.Nodes[n.Kids[0]].Type
	parts, _ := kind.Parts(t)
	tag := m.fresh(api.RegWord)
	m.add(api.Ins{Op: api.InsTag, To: tag, A: of})
	var ways []func()
	for i, k := range n.Kids[1:] {
		arm, block := m.core.Nodes[k], m.at
		if i < len(parts)-1 {
			block = m.branch(tag, partOf(t, arm.Name))
		}
		ways = append(ways, func() {
			m.at = block
			m.add(api.Ins{Op: api.InsGet, To: arm.N, A: of})
			m.do(arm.Kids[0])
		})
	}
	if len(ways) < len(parts) {
		rest := m.at
		ways = append(ways, func() {
			m.at = rest
			m.signal("tag")
		})
	}
	m.meet(ways...)
}

// branch returns the block in which a tag is a number, and goes on where it is another one.
func (m *maker) branch(tag, number int) int {
	is := m.spareWord()
	m.compare(is, tag, number)
	block, next := m.newBlock(), m.newBlock()
	m.end(api.End{Kind: api.EndIf, A: is, To: block, Else: next})
	m.at = next
	return block
}

func (m *maker) putOut(n api.Node) {
	value := m.value(n.Kids[0])
	m.add(api.Ins{Op: api.InsPut, A: value})
}
