package ssa

import (
	"iter"
	"slices"

	"argus/api"
)

// graph is a valid flow, with what stands around its blocks.
type graph struct {
	*api.Flow
	behind, ahead [][]int // ascending and each once
}

func newGraph(f *api.Flow) *graph {
	g := &graph{Flow: f, behind: make([][]int, len(f.Blocks)), ahead: make([][]int, len(f.Blocks))}
	for b := range f.Blocks {
		g.behind[b] = targets(&f.Blocks[b].End)
		slices.Sort(g.behind[b])
		g.behind[b] = slices.Compact(g.behind[b])
		for _, to := range g.behind[b] {
			g.ahead[to] = append(g.ahead[to], b)
		}
	}
	return g
}

// place returns the place of an Arg among those of the phis of a block, for a block ahead of it.
func (g *graph) place(from, to int) int {
	place, _ := slices.BinarySearch(g.ahead[to], from)
	return place
}

// leads yields where an end names blocks, To first.
func leads(e *api.End) iter.Seq[*int] {
	return func(yield func(to *int) bool) {
		if e.Kind == api.EndReturn || e.Kind == api.EndSignal || !yield(&e.To) {
			return
		}
		if (e.Kind == api.EndIf || e.Kind == api.EndNext) && !yield(&e.Else) {
			return
		}
		for i := range e.Whens {
			if !yield(&e.Whens[i].To) {
				return
			}
		}
		if e.Others >= 0 {
			yield(&e.Others)
		}
	}
}

// targets returns the blocks to which an end may lead, To first, as often as it names them.
func targets(e *api.End) []int {
	var l []int
	for to := range leads(e) {
		l = append(l, *to)
	}
	return l
}

// goTo returns an end that does nothing but go on.
func goTo(block int) api.End { return api.End{Kind: api.EndGoto, To: block, Others: -1} }
