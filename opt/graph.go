package opt

import (
	"iter"
	"slices"

	"argus/api"
	"argus/dom"
	"argus/flow"
	"argus/ssa"
)

// graph is a flow in SSA form, with what stands around its blocks, and with the places at which its registers are written.
type graph struct {
	*api.Flow
	ahead   [][]int // of each block, ascending and each once
	parent  []int   // of each block, or -1
	writers []writer
}

// writer is the place at which a register is written: a block, and an instruction of it or, behind them all, its end. The
// block is -1 for an argument, and for what is written nowhere.
type writer struct{ block, place int }

func newGraph(f api.Flow) (*graph, api.Errno) {
	if e := ssa.Check(f); e != api.OK {
		return nil, e
	}
	return graphOf(f), api.OK
}

// graphOf returns the graph of a flow that is known to be in SSA form.
func graphOf(f api.Flow) *graph {
	g := &graph{Flow: &f, ahead: aheads(&f), writers: slices.Repeat([]writer{{block: -1}}, len(f.Regs))}
	g.parent, _ = dom.Idom(f)
	for b := range f.Blocks {
		for place, reg := range written(&f.Blocks[b]) {
			g.writers[reg] = writer{b, place}
		}
	}
	return g
}

// written yields the registers that a block writes, with the places at which it does.
func written(b *api.Block) iter.Seq2[int, int] {
	return func(yield func(place, reg int) bool) {
		for i, x := range b.Ins {
			if reg := flow.Writes(x); reg >= 0 && !yield(i, reg) {
				return
			}
		}
		if reg := flow.WritesEnd(b.End); reg >= 0 {
			yield(len(b.Ins), reg)
		}
	}
}

// ways yields where an end names blocks, To first.
func ways(e *api.End) iter.Seq[*int] {
	return func(yield func(to *int) bool) {
		if e.Kind == api.EndReturn || e.Kind == api.EndSignal || !yield(&e.To) {
			return
		}
		if (e.Kind == api.EndIf || e.Kind == api.EndNext) && !yield(&e.Else) {
			return
		}
		for i := range e.Whens {
			if !yield(&e.Whens[i].To) {
				return
			}
		}
		if e.Others >= 0 {
			yield(&e.Others)
		}
	}
}

// aheads returns the blocks ahead of each block.
func aheads(f *api.Flow) [][]int {
	ahead := make([][]int, len(f.Blocks))
	for b := range f.Blocks {
		for to := range ways(&f.Blocks[b].End) {
			if l := ahead[*to]; len(l) == 0 || l[len(l)-1] != b {
				ahead[*to] = append(l, b)
			}
		}
	}
	return ahead
}

// phiCount returns how many phis a block has.
func phiCount(b *api.Block) int {
	n := 0
	for n < len(b.Ins) && b.Ins[n].Op == api.InsPhi {
		n++
	}
	return n
}

// counts reports whether some way leads to a block.
func (g *graph) counts(block int) bool { return block == 0 || g.parent[block] >= 0 }

// dominates reports whether both blocks count, and every way to b has a.
func (g *graph) dominates(a, b int) bool {
	if !g.counts(b) {
		return false
	}
	for b >= 0 && b != a {
		b = g.parent[b]
	}
	return a == b
}

// kind returns the kind of a register, or 0 if there is none with this number.
func (g *graph) kind(reg int) uint8 {
	if reg < 0 || reg >= len(g.Regs) {
		return 0
	}
	return g.Regs[reg]
}

// isInstruction reports whether an instruction writes a register.
func (g *graph) isInstruction(reg int) bool {
	w := g.writers[reg]
	return w.block >= 0 && w.place < len(g.Blocks[w.block].Ins)
}

// by returns the instruction by which a register is written that has a writer: the one of an end may be none.
func (g *graph) by(reg int) *api.Ins {
	w := g.writers[reg]
	if g.isInstruction(reg) {
		return &g.Blocks[w.block].Ins[w.place]
	}
	return &g.Blocks[w.block].End.Ins
}

// standsAhead reports whether a register stands ahead of the writer of another one, which has one.
func (g *graph) standsAhead(a, b int) bool {
	one, two := g.writers[a], g.writers[b]
	switch {
	case one.block < 0:
		return a < g.Args
	case !g.isInstruction(a):
		to := g.Blocks[one.block].End.To
		return g.isOnlyWay(one.block, to) && g.dominates(to, two.block)
	case one.block == two.block:
		return one.place < two.place
	}
	return g.dominates(one.block, two.block)
}

// isOnlyWay reports whether the To of an end is entered by this alone. The block 0 is entered at the beginning, too.
func (g *graph) isOnlyWay(from, to int) bool {
	n := 0
	for other := range ways(&g.Blocks[from].End) {
		if *other == to {
			n++
		}
	}
	return n == 1 && len(g.ahead[to]) == 1 && to != 0
}

// pass gives the phis of a flow, in which they have Args for the blocks ahead of theirs in the graph, those for the blocks
// that are ahead now: was tells, for each of these, which block had its end in the graph.
func (g *graph) pass(f *api.Flow, was []int) {
	ahead := aheads(f)
	for b := range f.Blocks {
		for i := range phiCount(&f.Blocks[b]) {
			phi := &f.Blocks[b].Ins[i]
			old := phi.Args
			phi.Args = nil
			for _, from := range ahead[b] {
				place, _ := slices.BinarySearch(g.ahead[b], was[from])
				phi.Args = append(phi.Args, old[place])
			}
		}
	}
}

// upTo returns the numbers from 0 to less than n.
func upTo(n int) []int {
	l := make([]int, n)
	for i := range l {
		l[i] = i
	}
	return l
}
