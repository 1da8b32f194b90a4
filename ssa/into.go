package ssa

import (
	"slices"

	"argus/api"
	"argus/dom"
	"argus/flow"
)

// maker makes a flow in SSA form of a straight one without phis. It has as few phis as there can be: a phi stands only
// where ways meet on which a register was written at different places, and where this is read later.
type maker struct {
	*graph
	parent         []int
	frontier, live [][]int
	made           []made
	regs           []uint8
	origins        []int
	first          map[int]int // the first register of each origin
	now            map[int]int // the version of each origin, where the walk is
	changes        []change    // how to leave the versions that were entered
}

// made is a block that is made, phis first.
type made struct {
	api.Block
	phis []int // their origins
}

// change is what an origin had before it came to have another version.
type change struct {
	origin, version int
	hadOne          bool
}

func newMaker(f *api.Flow) *maker {
	m := &maker{graph: newGraph(f), made: make([]made, len(f.Blocks)), first: map[int]int{}, now: map[int]int{}}
	// The flow is known to be valid.
	m.parent, _ = dom.Idom(*f)
	m.frontier, _ = dom.Frontier(*f)
	m.live, _, _ = dom.Live(*f)
	return m
}

func (m *maker) counts(block int) bool { return block == 0 || m.parent[block] >= 0 }

// fresh returns a register more.
func (m *maker) fresh(origin int) int {
	reg := len(m.regs)
	if reg == api.MaxRegs {
		panic(tooMuch{})
	}
	m.regs, m.origins = append(m.regs, m.Regs[origin]), append(m.origins, origin)
	if _, hasOne := m.first[origin]; !hasOne {
		m.first[origin] = reg
	}
	return reg
}

func (m *maker) make() {
	m.mayFit()
	for i := range m.Args {
		m.become(i, m.fresh(i))
	}
	for b := range m.Blocks {
		if m.counts(b) {
			m.join(b)
		}
	}
	m.walk()
	for b := range m.Blocks {
		if !m.counts(b) {
			m.fill(b, m.anyVersion)
			m.fillEnd(b, m.anyVersion)
		}
	}
}

// mayFit gives up if what writes a register is too much already.
func (m *maker) mayFit() {
	n := m.Args
	for b := range m.Blocks {
		for range written(&m.Blocks[b]) {
			n++
		}
	}
	if n > api.MaxRegs {
		panic(tooMuch{})
	}
}

// join puts phis where what a block writes meets what was written elsewhere.
func (m *maker) join(block int) {
	b := &m.Blocks[block]
	for origin := range written(&api.Block{Ins: b.Ins}) {
		m.meet(origin, m.frontier[block])
	}
	if origin := flow.WritesEnd(b.End); origin >= 0 {
		m.meet(origin, m.frontierOfWay(block, b.End.To))
	}
}

// frontierOfWay returns the frontier of a block that would lie on the way from one block to another one.
func (m *maker) frontierOfWay(from, to int) []int {
	for _, b := range m.ahead[to] {
		if b != from && m.counts(b) && !m.isAbove(to, b) {
			return []int{to}
		}
	}
	beyond := slices.Clone(m.frontier[to])
	return slices.DeleteFunc(beyond, func(b int) bool { return b == to })
}

// isAbove reports whether one block dominates another one.
func (m *maker) isAbove(a, b int) bool {
	for b >= 0 && b != a {
		b = m.parent[b]
	}
	return a == b
}

// meet puts phis for an origin into those of some blocks in which it is live, and where the phis meet others.
func (m *maker) meet(origin int, blocks []int) {
	for _, b := range blocks {
		if _, isLive := slices.BinarySearch(m.live[b], origin); isLive && !slices.Contains(m.made[b].phis, origin) {
			m.addPhi(b, origin)
			m.meet(origin, m.frontier[b])
		}
	}
}

// addPhi puts a phi at the beginning of a block. Where no way leads to a block ahead, its own To is as good as any Arg.
func (m *maker) addPhi(block, origin int) {
	b := &m.made[block]
	if len(b.phis)+len(m.Blocks[block].Ins) == api.MaxIns {
		panic(tooMuch{})
	}
	to := m.fresh(origin)
	b.phis = append(b.phis, origin)
	b.Ins = append(b.Ins, api.Ins{Op: api.InsPhi, To: to, Args: slices.Repeat([]int{to}, len(m.ahead[block]))})
}

// become gives an origin another version, until it is left.
func (m *maker) become(origin, version int) {
	old, hadOne := m.now[origin]
	m.changes = append(m.changes, change{origin, old, hadOne})
	m.now[origin] = version
}

// leave leaves the versions behind the first n changes.
func (m *maker) leave(n int) {
	for i := len(m.changes) - 1; i >= n; i-- {
		if c := m.changes[i]; c.hadOne {
			m.now[c.origin] = c.version
		} else {
			delete(m.now, c.origin)
		}
	}
	m.changes = m.changes[:n]
}

func (m *maker) version(origin int) int { return m.now[origin] }

// anyVersion returns a register where no way leads, so that it does not matter which one.
func (m *maker) anyVersion(origin int) int {
	if reg, hasOne := m.first[origin]; hasOne {
		return reg
	}
	return m.fresh(origin)
}

// walk goes down from each block to those of which it is the parent: what is the version of an origin at the end of that is
// so where these begin, unless they have a phi.
func (m *maker) walk() {
	children := make([][]int, len(m.Blocks))
	for b, parent := range m.parent {
		if parent >= 0 {
			children[parent] = append(children[parent], b)
		}
	}
	var enter func(block int)
	enter = func(block int) {
		n := len(m.changes)
		for i, phi := range phis(&m.made[block].Block) {
			m.become(m.made[block].phis[i], phi.To)
		}
		m.fill(block, m.version)
		reg := m.fillEnd(block, m.version)
		for _, to := range m.behind[block] {
			m.onWay(block, to, reg, func() { m.fillPhis(block, to) })
		}
		for _, child := range children[block] {
			m.onWay(block, child, reg, func() { enter(child) })
		}
		m.leave(n)
	}
	enter(0)
}

// onWay does something behind the end of a block, which writes a register (or -1) if it goes on to its To.
func (m *maker) onWay(from, to, reg int, do func()) {
	n := len(m.changes)
	if reg >= 0 && to == m.Blocks[from].End.To {
		m.become(m.origins[reg], reg)
	}
	do()
	m.leave(n)
}

// fill makes the instructions of a block.
func (m *maker) fill(block int, version func(origin int) int) {
	b := &m.made[block]
	for _, x := range m.Blocks[block].Ins {
		x = turnReads(x, version)
		if origin := flow.Writes(x); origin >= 0 {
			x.To = m.fresh(origin)
			m.become(origin, x.To)
		}
		b.Ins = append(b.Ins, x)
	}
}

// fillEnd makes the end of a block, and returns the register that this writes, or -1.
func (m *maker) fillEnd(block int, version func(origin int) int) int {
	b := &m.made[block]
	b.End = turnEnd(m.Blocks[block].End, version)
	origin := flow.WritesEnd(b.End)
	if origin < 0 {
		return -1
	}
	reg := m.fresh(origin)
	writeEnd(&b.End, reg)
	return reg
}

// fillPhis gives the phis of a block their Args for one of the blocks ahead.
func (m *maker) fillPhis(from, to int) {
	for i, phi := range phis(&m.made[to].Block) {
		phi.Args[m.place(from, to)] = m.version(m.made[to].phis[i])
	}
}

// flow returns the flow that was made.
func (m *maker) flow() api.Flow {
	f := *m.Flow
	f.Regs, f.Slots, f.Signals = m.regs, slices.Clone(f.Slots), slices.Clone(f.Signals)
	f.Blocks = nil
	for _, b := range m.made {
		f.Blocks = append(f.Blocks, b.Block)
	}
	return f
}

// Into returns a flow in SSA form that comes from a flow, and the origins of its registers.
func Into(f api.Flow) (api.Flow, []int, api.Errno) {
	if e := checkStraight(f); e != api.OK {
		return api.Flow{}, nil, e
	}
	m := newMaker(&f)
	if !fits(m.make) {
		return api.Flow{}, nil, api.ErrLimit
	}
	return m.flow(), m.origins, api.OK
}
