package dom

import (
	"iter"
	"slices"

	"argus/api"
	"argus/flow"
)

// trace follows a register. Its places are the blocks, and behind their numbers, for each block, its phis on the way to it.
type trace struct {
	*graph
	register int
}

// isReadIn reports whether an instruction of a block that is no phi, or its end, reads the register before one writes it.
func (t *trace) isReadIn(block int) bool {
	b := &t.Blocks[block]
	for _, x := range b.Ins {
		if slices.Contains(flow.Reads(x), t.register) {
			return true
		}
		if flow.Writes(x) == t.register {
			return false
		}
	}
	return slices.Contains(flow.ReadsEnd(b.End), t.register)
}

// isWrittenIn reports whether an instruction of a block, phis among these, writes the register.
func (t *trace) isWrittenIn(block int) bool {
	writes := func(x api.Ins) bool { return flow.Writes(x) == t.register }
	return slices.ContainsFunc(t.Blocks[block].Ins, writes)
}

// isReadOnWay reports whether a phi reads the register on the way from one block to another one.
func (t *trace) isReadOnWay(from, to int) bool {
	place, _ := slices.BinarySearch(t.ahead[to], from)
	reads := func(phi api.Ins) bool { return phi.Args[place] == t.register }
	return slices.ContainsFunc(t.phis(to), reads)
}

// passes yields the blocks behind a block to which the register comes as it was at the beginning of this one.
func (t *trace) passes(block int) iter.Seq[int] {
	return func(yield func(to int) bool) {
		if t.isWrittenIn(block) {
			return
		}
		for _, to := range t.behind[block] {
			if t.written(block, to) != t.register && !yield(to) {
				return
			}
		}
	}
}

// next yields the places behind a place that is not the end of a search.
func (t *trace) next(place int) iter.Seq[int] {
	return func(yield func(place int) bool) {
		for to := range t.passes(place) {
			if t.isReadOnWay(place, to) {
				to += len(t.Blocks)
			}
			if !yield(to) {
				return
			}
		}
	}
}

func (t *trace) isEnd(place int) bool { return place >= len(t.Blocks) || t.isReadIn(place) }

// isProof reports whether a list of any numbers shows that the register is live at the beginning of its first block.
func (t *trace) isProof(way []int) bool {
	if len(way) == 0 || len(way) > api.MaxBlocks || !t.isWay(way) || !t.counts(way[0]) {
		return false
	}
	last := len(way) - 1
	for i, b := range way[:last] {
		if t.isWrittenIn(b) || t.written(b, way[i+1]) == t.register {
			return false
		}
	}
	return t.isReadIn(way[last]) || last > 0 && t.isReadOnWay(way[last-1], way[last])
}

// newTrace returns ErrArg for a block, or a register, that there is not.
func newTrace(f api.Flow, block, register int) (*trace, api.Errno) {
	g, e := newGraph(f)
	switch {
	case e != api.OK:
		return nil, e
	case !g.has(block) || register < 0 || register >= len(g.Regs):
		return nil, api.ErrArg
	}
	return &trace{graph: g, register: register}, api.OK
}

// Witness returns a proof that a register is live at the beginning of a block, and whether there is one.
func Witness(f api.Flow, block, register int) ([]int, bool, api.Errno) {
	t, e := newTrace(f, block, register)
	if e != api.OK || !t.counts(block) {
		return nil, false, e
	}
	way := search(block, t.next, t.isEnd)
	for i, place := range way {
		way[i] = place % len(t.Blocks)
	}
	return way, len(way) > 0, api.OK
}

// CheckWitness reports whether a way is a proof that a register is live at the beginning of a block.
func CheckWitness(f api.Flow, block, register int, way []int) (bool, api.Errno) {
	t, e := newTrace(f, block, register)
	if e != api.OK {
		return false, e
	}
	return len(way) > 0 && way[0] == block && t.isProof(way), api.OK
}
