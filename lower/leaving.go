package lower

import (
	"slices"

	"argus/api"
)

// surrounding is what stands around a statement, where signals and breaks go: a loop, an iteration or a guard. Nothing stands around those that leave the routine.
type surrounding interface{ outer() surrounding }

// outside is what stands around a surrounding.
type outside struct{ surrounding }

func (o outside) outer() surrounding { return o.surrounding }

// loop is a StWhile.
type loop struct {
	outside
	exit int
}

// iteration is a StFor, with the register of what it runs.
type iteration struct {
	outside
	exit, register int
}

// guard is a StExcept, with its handlers, and their blocks: nowhere as long as no signal comes.
type guard struct {
	outside
	whens, blocks []int
}

// leaving is an iteration that a signal leaves, and where that goes.
type leaving struct{ register, way int }

// maxLandings is how many landings a flow may have: with a block for each node there is room for no more. Without one an iteration stays until its loop is begun again, or the routine ends; nothing more of it is done.
const maxLandings = 300

// inside makes something with a surrounding more.
func (m *maker) inside(s surrounding, do func()) {
	before := m.around
	m.around = s
	do()
	m.around = before
}

// breakOut ends the innermost loop.
func (m *maker) breakOut(api.Node) {
	for s := m.around; s != nil; s = s.outer() {
		switch x := s.(type) {
		case *loop:
			m.goTo(x.exit)
			return
		case *iteration:
			m.add(closed(x.register))
			m.goTo(x.exit)
			return
		}
	}
}

func closed(register int) api.Ins { return api.Ins{Op: api.InsClose, A: register} }

// signal signals a name.
func (m *maker) signal(name string) {
	if way := m.wayOf(name); way != nowhere {
		m.goTo(way)
		return
	}
	m.end(api.End{Kind: api.EndSignal, Name: name})
}

// whens returns where some signals of an end go, as far as they do not leave the routine.
func (m *maker) whens(signals ...string) []api.When {
	var l []api.When
	for _, s := range signals {
		if way := m.wayOf(s); way != nowhere {
			l = append(l, api.When{Name: s, To: way})
		}
	}
	return l
}

// wayOf returns the block to which a signal goes; nowhere if it leaves the routine.
func (m *maker) wayOf(signal string) int {
	var open []int
	for s := m.around; s != nil; s = s.outer() {
		switch x := s.(type) {
		case *iteration:
			open = append(open, x.register)
		case *guard:
			if handler := m.handler(x, signal); handler != nowhere {
				return m.landed(open, handler)
			}
		}
	}
	return nowhere
}

// handler returns the block of a guard for a signal; nowhere if it has none.
func (m *maker) handler(g *guard, signal string) int {
	for i, k := range g.whens {
		if name := m.core.Nodes[k].Name; name != signal && name != "" {
			continue
		}
		if g.blocks[i] == nowhere {
			g.blocks[i] = m.newBlock()
		}
		return g.blocks[i]
	}
	return nowhere
}

// landed returns the way to a block that gives up iterations, the first ones first.
func (m *maker) landed(open []int, way int) int {
	for _, register := range slices.Backward(open) {
		way = m.landing(register, way)
	}
	return way
}

// landing returns a block that gives up an iteration, and goes on.
func (m *maker) landing(register, way int) int {
	what := leaving{register, way}
	block, isThere := m.landings[what]
	switch {
	case isThere:
		return block
	case len(m.landings) == maxLandings:
		return way
	}
	block = m.newBlock()
	m.blocks[block] = api.Block{
		Ins: []api.Ins{closed(register)},
		End: api.End{Kind: api.EndGoto, To: way, Others: nowhere},
	}
	m.landings[what] = block
	return block
}
