package dom

import (
	"slices"

	"argus/api"
)

// tree is a graph with the parents of its blocks.
type tree struct {
	*graph
	parent []int
}

func newTree(f api.Flow) (*tree, api.Errno) {
	g, e := newGraph(f)
	if e != api.OK {
		return nil, e
	}
	return &tree{graph: g, parent: g.parents()}, api.OK
}

// parents returns the parent of each block, or -1. A block is named by its number in the walk here: of those from which
// a way leads to a block over greater ones alone, low has the least; the parent is the nearest of those above the block in
// the walk that is at most this one.
func (g *graph) parents() []int {
	low, above := g.low(), make([]int, len(g.met))
	parent := slices.Repeat([]int{-1}, len(g.Blocks))
	for w := 1; w < len(g.met); w++ {
		above[w] = g.from[w]
		for above[w] > low[w] {
			above[w] = above[above[w]]
		}
		parent[g.met[w]] = g.met[above[w]]
	}
	return parent
}

// low returns, for the numbers of blocks, the least number from which a way leads there over greater ones alone.
func (g *graph) low() []int {
	low, best := make([]int, len(g.met)), make([]int, len(g.met))
	up := slices.Repeat([]int{-1}, len(g.met))
	// shorten lets a block that is done point to the first one above that is not, and best to the one with the least low between them.
	var shorten func(v int)
	shorten = func(v int) {
		a := up[v]
		if up[a] < 0 {
			return
		}
		shorten(a)
		if low[best[a]] < low[best[v]] {
			best[v] = best[a]
		}
		up[v] = up[a]
	}
	for w := len(g.met) - 1; w >= 0; w-- {
		low[w], best[w] = w, w
		for b := range g.before(g.met[w]) {
			v := g.number[b]
			if v <= w {
				low[w] = min(low[w], v)
				continue
			}
			shorten(v)
			low[w] = min(low[w], low[best[v]])
		}
		up[w] = g.from[w]
	}
	return low
}

// isAbove reports whether a block is another one that counts, or the parents lead from that to it.
func (t *tree) isAbove(a, b int) bool {
	for ; b >= 0; b = t.parent[b] {
		if a == b {
			return true
		}
	}
	return false
}

// Idom returns the parent of each block, -1 for those that have none.
func Idom(f api.Flow) ([]int, api.Errno) {
	t, e := newTree(f)
	if e != api.OK {
		return nil, e
	}
	return t.parent, api.OK
}

// Dominates reports whether both blocks count, and every way to b has a.
func Dominates(f api.Flow, a, b int) (bool, api.Errno) {
	t, e := newTree(f)
	switch {
	case e != api.OK:
		return false, e
	case !t.has(a) || !t.has(b):
		return false, api.ErrArg
	}
	return t.counts(b) && t.isAbove(a, b), api.OK
}
