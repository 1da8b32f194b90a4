package ssa

import (
	"slices"

	"argus/api"
	"argus/dom"
	"argus/flow"
)

// claim is that one flow comes from another one, with some origins.
type claim struct {
	from, to *api.Flow
	origins  []int
}

// holds reports whether a claim does, of which the flow that is come from is valid, straight and without phis.
func (c *claim) holds() bool {
	if Check(*c.to) != api.OK || !c.areHeadsSame() || !c.areOrigins() || len(c.from.Blocks) != len(c.to.Blocks) {
		return false
	}
	for b := range c.to.Blocks {
		if !c.isSameBlock(&c.to.Blocks[b], &c.from.Blocks[b]) {
			return false
		}
	}
	return newVersions(c).areRead()
}

func (c *claim) areHeadsSame() bool {
	f, g := c.from, c.to
	return f.Name == g.Name && f.Iter == g.Iter && f.Args == g.Args && f.Result == g.Result &&
		slices.Equal(f.Slots, g.Slots) && slices.Equal(f.Signals, g.Signals)
}

// areOrigins looks at the kinds of the registers, and at the arguments.
func (c *claim) areOrigins() bool {
	if len(c.origins) != len(c.to.Regs) {
		return false
	}
	for reg, origin := range c.origins {
		if origin < 0 || origin >= len(c.from.Regs) || c.from.Regs[origin] != c.to.Regs[reg] || reg < c.to.Args && origin != reg {
			return false
		}
	}
	return true
}

// origin returns the origin of a register, or -1 where there is none.
func (c *claim) origin(reg int) int {
	if reg < 0 {
		return -1
	}
	return c.origins[reg]
}

// isSameBlock reports whether a block is another one behind its phis, if origins stand for the registers, and whether its
// phis have one origin each, and different ones.
func (c *claim) isSameBlock(b, of *api.Block) bool {
	isPhi := map[int]bool{}
	for _, phi := range phis(b) {
		isOther := func(arg int) bool { return c.origin(arg) != c.origin(phi.To) }
		if isPhi[c.origin(phi.To)] || slices.ContainsFunc(phi.Args, isOther) {
			return false
		}
		isPhi[c.origin(phi.To)] = true
	}
	return slices.EqualFunc(b.Ins[len(isPhi):], of.Ins, c.isSame) && c.isSameEnd(&b.End, &of.End)
}

func (c *claim) isSame(x, of api.Ins) bool {
	return x.Op == of.Op && x.N == of.N && slices.EqualFunc(flow.Reads(x), flow.Reads(of), c.isOf) && c.isOf(flow.Writes(x), flow.Writes(of))
}

func (c *claim) isSameEnd(x, of *api.End) bool {
	return x.Kind == of.Kind && x.To == of.To && x.Else == of.Else && x.Others == of.Others && x.Name == of.Name && slices.Equal(x.Whens, of.Whens) &&
		c.isSame(x.Ins, of.Ins) && slices.EqualFunc(flow.ReadsEnd(*x), flow.ReadsEnd(*of), c.isOf) && c.isOf(flow.WritesEnd(*x), flow.WritesEnd(*of))
}

func (c *claim) isOf(reg, origin int) bool { return c.origin(reg) == origin }

const (
	unknown = -1
	unmet   = -2 // no way that was followed so far leads there
)

// versions has the version of each origin where the blocks to which some way leads begin.
type versions struct {
	*claim
	*graph
	at   [][]int       // of each block and origin
	phis []map[int]int // of each block: what its phis write, by origins
	last []map[int]int // what is behind its instructions the version of the origins that these or the phis write
}

func newVersions(c *claim) *versions {
	n := len(c.to.Blocks)
	v := &versions{claim: c, graph: newGraph(c.to), at: make([][]int, n), phis: make([]map[int]int, n), last: make([]map[int]int, n)}
	for b := range c.to.Blocks {
		v.at[b] = slices.Repeat([]int{unmet}, len(c.from.Regs))
		v.phis[b], v.last[b] = map[int]int{}, map[int]int{}
		for _, phi := range phis(&c.to.Blocks[b]) {
			v.phis[b][c.origin(phi.To)] = phi.To
		}
		for reg := range written(&api.Block{Ins: c.to.Blocks[b].Ins}) {
			v.last[b][c.origin(reg)] = reg
		}
	}
	for origin := range c.from.Regs {
		v.follow(origin)
	}
	return v
}

// follow finds the versions of an origin, each of which is believed to be the same on all ways until it is found not to be.
func (v *versions) follow(origin int) {
	v.at[0][origin] = unknown
	if origin < v.Args {
		v.at[0][origin] = origin
	}
	for waiting := []int{0}; len(waiting) > 0; waiting = waiting[1:] {
		for _, to := range v.behind[waiting[0]] {
			if v.enter(to, origin, v.onWay(waiting[0], to, origin)) {
				waiting = append(waiting, to)
			}
		}
	}
}

// onWay returns the version of an origin on the way from one block to another one.
func (v *versions) onWay(from, to, origin int) int {
	e := &v.Blocks[from].End
	if reg := flow.WritesEnd(*e); reg >= 0 && v.origin(reg) == origin && to == e.To {
		return reg
	}
	if reg, isWritten := v.last[from][origin]; isWritten {
		return reg
	}
	return v.at[from][origin]
}

// enter takes note of the version with which a way leads to a block, and reports whether this makes a difference there.
func (v *versions) enter(block, origin, version int) bool {
	if reg, isPhi := v.phis[block][origin]; isPhi {
		version = reg
	}
	old := v.at[block][origin]
	if old != unmet && old != version {
		version = unknown
	}
	v.at[block][origin] = version
	return version != old
}

// areRead reports whether versions alone are read in the blocks to which some way leads.
func (v *versions) areRead() bool {
	order, _ := dom.Order(*v.Flow)
	for _, b := range order {
		if !v.areReadIn(b) || !v.arePassed(b) {
			return false
		}
	}
	return true
}

// areReadIn looks at the instructions of a block behind its phis, and at its end.
func (v *versions) areReadIn(block int) bool {
	now := slices.Clone(v.at[block])
	isNone := func(reg int) bool { return now[v.origin(reg)] != reg }
	for _, x := range v.Blocks[block].Ins {
		if slices.ContainsFunc(flow.Reads(x), isNone) {
			return false
		}
		if reg := flow.Writes(x); reg >= 0 {
			now[v.origin(reg)] = reg
		}
	}
	return !slices.ContainsFunc(flow.ReadsEnd(v.Blocks[block].End), isNone)
}

// arePassed looks at the Args of the phis behind a block.
func (v *versions) arePassed(block int) bool {
	for _, to := range v.behind[block] {
		for _, phi := range phis(&v.Blocks[to]) {
			if v.onWay(block, to, v.origin(phi.To)) != phi.Args[v.place(block, to)] {
				return false
			}
		}
	}
	return true
}

// CheckInto reports whether a flow, any one, comes from a flow by some origins.
func CheckInto(f, g api.Flow, origins []int) (bool, api.Errno) {
	if e := checkStraight(f); e != api.OK {
		return false, e
	}
	c := &claim{from: &f, to: &g, origins: origins}
	return c.holds(), api.OK
}
