// Package dom is layer 10: of a flow, which blocks count, and which of them every way to another one passes, with proofs; the frontiers and loops; and the registers that are still read, with proofs.
package dom

import (
	"iter"
	"slices"

	"argus/api"
	"argus/flow"
)

// graph is a flow, with what stands around its blocks.
type graph struct {
	*api.Flow
	behind, ahead [][]int // ascending and each once
	met           []int   // the blocks that count, as a walk in depth meets them
	from          []int   // beside each of these, the place in met of the one from which it was met
	number        []int   // of each block: its place in met, or -1
	order         []int   // the blocks that count, in the order of Order
}

func newGraph(f api.Flow) (*graph, api.Errno) {
	if e := flow.Check(f); e != api.OK {
		return nil, e
	}
	g := &graph{Flow: &f}
	g.link()
	g.walk()
	return g, api.OK
}

// targets returns the blocks to which an end may lead, To first, as often as it names them.
func targets(e *api.End) []int {
	if e.Kind == api.EndReturn || e.Kind == api.EndSignal {
		return nil
	}
	l := []int{e.To}
	if e.Kind == api.EndIf || e.Kind == api.EndNext {
		l = append(l, e.Else)
	}
	for _, w := range e.Whens {
		l = append(l, w.To)
	}
	if e.Others >= 0 {
		l = append(l, e.Others)
	}
	return l
}

// link finds which blocks are behind and ahead of others.
func (g *graph) link() {
	g.behind, g.ahead = make([][]int, len(g.Blocks)), make([][]int, len(g.Blocks))
	var all []int
	for b := range g.Blocks {
		start := len(all)
		all = append(all, targets(&g.Blocks[b].End)...)
		slices.Sort(all[start:])
		all = all[:start+len(slices.Compact(all[start:]))]
		g.behind[b] = all[start:len(all):len(all)]
		for _, to := range g.behind[b] {
			g.ahead[to] = append(g.ahead[to], b)
		}
	}
}

// walk visits the blocks that count, in depth.
func (g *graph) walk() {
	g.number = slices.Repeat([]int{-1}, len(g.Blocks))
	var noted []int
	var visit func(block, from int)
	visit = func(block, from int) {
		g.number[block] = len(g.met)
		g.met, g.from = append(g.met, block), append(g.from, from)
		for _, to := range g.behind[block] {
			if !g.counts(to) {
				visit(to, g.number[block])
			}
		}
		noted = append(noted, block)
	}
	visit(0, -1)
	g.order = turned(noted)
}

// turned returns a list from its end to its beginning.
func turned[T any](l []T) []T {
	l = slices.Clone(l)
	slices.Reverse(l)
	return l
}

// counts reports whether a way leads to a block; as long as blocks are visited, whether this one was.
func (g *graph) counts(block int) bool { return g.number[block] >= 0 }

// counting yields the blocks that count, in the order of Order.
func (g *graph) counting() iter.Seq[int] {
	return func(yield func(block int) bool) {
		for _, b := range g.order {
			if !yield(b) {
				return
			}
		}
	}
}

// before yields the blocks ahead of a block that count.
func (g *graph) before(block int) iter.Seq[int] {
	return func(yield func(block int) bool) {
		for _, b := range g.ahead[block] {
			if g.counts(b) && !yield(b) {
				return
			}
		}
	}
}

// has reports whether there is a block with a number.
func (g *graph) has(block int) bool { return 0 <= block && block < len(g.Blocks) }

// isBehind reports whether one block is behind another one.
func (g *graph) isBehind(to, from int) bool {
	_, is := slices.BinarySearch(g.behind[from], to)
	return is
}

// Reach tells of each block whether some way leads to it from the block 0.
func Reach(f api.Flow) ([]bool, api.Errno) {
	g, e := newGraph(f)
	if e != api.OK {
		return nil, e
	}
	counts := make([]bool, len(g.Blocks))
	for b := range g.counting() {
		counts[b] = true
	}
	return counts, api.OK
}

// Order returns the blocks that count; each stands behind the one from which a walk in depth came to it.
func Order(f api.Flow) ([]int, api.Errno) {
	g, e := newGraph(f)
	if e != api.OK {
		return nil, e
	}
	return g.order, api.OK
}
