package lower

import (
	"slices"

	"argus/api"
)

const (
	// nowhere is no block, or no register.
	nowhere = -1
	// anywhere is a register that is still to be chosen.
	anywhere = -2
)

// registers are those of a flow that is made, by their kinds.
type registers struct {
	kinds []uint8
	// spare is a word that all comparisons share, since what is written into it is read at once; nowhere as long as there is none.
	spare int
}

// fresh returns a register that was not there before.
func (r *registers) fresh(kind uint8) int {
	r.kinds = append(r.kinds, kind)
	return len(r.kinds) - 1
}

// spareWord returns the word that holds nothing for longer than it takes to read it.
func (r *registers) spareWord() int {
	if r.spare == nowhere {
		r.spare = r.fresh(api.RegWord)
	}
	return r.spare
}

// place returns the register into which a value is to come.
func (r *registers) place(into int, kind uint8) int {
	if into >= 0 {
		return into
	}
	return r.fresh(kind)
}

// maker makes the flow of a core. The slots of the core are the first registers; each node needs at most one more, besides the spare word, and at most one block, so that no core is too large.
type maker struct {
	*program
	registers
	core        api.Core
	expressions map[uint8]expression
	statements  map[uint8]statement
	blocks      []api.Block
	// at is the block that is made; nowhere if what comes next is never done.
	at       int
	around   surrounding
	landings map[leaving]int
}

// lowered returns the flow of a core.
func (p *program) lowered(name string, c api.Core) api.Flow {
	m := &maker{program: p, core: c, expressions: expressions(), statements: statements(), landings: map[leaving]int{}}
	m.registers = registers{p.kindsOf(c.Slots), nowhere}
	m.at = m.newBlock()
	m.do(len(c.Nodes) - 1)
	m.finish()
	return api.Flow{
		Name:    name,
		Iter:    c.Sig.Iter,
		Args:    len(c.Sig.Args),
		Result:  p.resultOf(c.Sig),
		Regs:    m.kinds,
		Signals: slices.Clone(c.Sig.Signals),
		Blocks:  m.blocks,
	}
}

// finish ends what reaches the end of the body.
func (m *maker) finish() {
	switch {
	case m.at == nowhere:
	case m.core.Sig.Result != "" && !m.core.Sig.Iter:
		m.end(api.End{Kind: api.EndSignal, Name: "failure"})
	default:
		m.end(api.End{Kind: api.EndReturn, A: nowhere})
	}
}

func (m *maker) newBlock() int {
	m.blocks = append(m.blocks, api.Block{})
	return len(m.blocks) - 1
}

// add adds an instruction, in a further block if this one is full.
func (m *maker) add(x api.Ins) {
	if len(m.blocks[m.at].Ins) == api.MaxIns {
		m.pass(api.End{Kind: api.EndGoto})
	}
	b := &m.blocks[m.at]
	b.Ins = append(b.Ins, x)
}

// end ends the block. No end has Others, since it names all signals that it can have.
func (m *maker) end(e api.End) {
	e.Others = nowhere
	m.blocks[m.at].End = e
	m.at = nowhere
}

// pass ends the block, and goes on in a new one.
func (m *maker) pass(e api.End) {
	e.To = m.newBlock()
	m.end(e)
	m.at = e.To
}

func (m *maker) goTo(block int) { m.end(api.End{Kind: api.EndGoto, To: block}) }

// goBack ends the body of a loop, if its end is reached.
func (m *maker) goBack(head int) {
	if m.at != nowhere {
		m.goTo(head)
	}
}

// canBegin reports whether ways can come together at the beginning of a block. In the block 0 no phi may stand.
func (m *maker) canBegin(block int) bool { return block > 0 && len(m.blocks[block].Ins) == 0 }

// within returns what makes statements from a block on.
func (m *maker) within(block int, nodes ...int) func() {
	return func() {
		m.at = block
		for _, i := range nodes {
			m.do(i)
		}
	}
}

// meet makes some ways, and lets those whose ends are reached come together.
func (m *maker) meet(ways ...func()) {
	var tails []int
	for _, way := range ways {
		way()
		if m.at != nowhere {
			tails = append(tails, m.at)
		}
	}
	if len(tails) < 2 {
		m.at = append(tails, nowhere)[0]
		return
	}
	joint := m.joint(tails)
	for _, tail := range tails {
		if tail != joint {
			m.at = tail
			m.goTo(joint)
		}
	}
	m.at = joint
}

// joint returns where some ways come together: one of them that has done nothing yet, or a new block.
func (m *maker) joint(tails []int) int {
	if i := slices.IndexFunc(tails, m.canBegin); i >= 0 {
		return tails[i]
	}
	return m.newBlock()
}
