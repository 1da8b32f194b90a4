package dom

import "argus/api"

// proof is a graph with parents that are said to be its own, and with ways that are to show it.
type proof struct {
	*tree
	one, two [][]int
}

// isOut reports whether a block is said not to count.
func (p *proof) isOut(block int) bool { return block != 0 && p.parent[block] == -1 }

// leadToStart reports whether there is a list with one element for each block, and the parents of those that are not out lead to the block 0.
func (p *proof) leadToStart() bool {
	n := len(p.Blocks)
	if len(p.parent) != n || len(p.one) != n || len(p.two) != n || p.parent[0] != -1 {
		return false
	}
	for b := range p.Blocks {
		if p.isOut(b) {
			continue
		}
		steps := 0
		for ; b != 0 && steps < n; steps++ {
			if b = p.parent[b]; !p.has(b) {
				return false
			}
		}
		if b != 0 {
			return false
		}
	}
	return true
}

// holds reports whether the parents are those of the graph, as far as the proof shows it.
func (p *proof) holds() bool {
	if !p.leadToStart() {
		return false
	}
	does := true
blocks:
	for b := range p.Blocks {
		if does = p.areWays(b); !does {
			break blocks
		}
		if p.isOut(b) {
			continue
		}
		for _, to := range p.behind[b] {
			if does = !p.isOut(to) && (to == 0 || p.isAbove(p.parent[to], b)); !does {
				break blocks
			}
		}
	}
	return does
}

// areWays reports whether the ways of a block are two that part at its parent and meet in it; there are none for the block 0, and for those that are out.
func (p *proof) areWays(block int) bool {
	one, two := p.one[block], p.two[block]
	if p.parent[block] == -1 {
		return len(one) == 0 && len(two) == 0
	}
	if !p.isWayTo(block, one) || !p.isWayTo(block, two) {
		return false
	}
	between := append(one[1:len(one)-1:len(one)-1], two[1:len(two)-1]...)
	return p.areOnce(between)
}

// isWayTo reports whether a list is a way from the parent of a block to it, without a block that stands twice.
func (p *proof) isWayTo(block int, way []int) bool {
	last := len(way) - 1
	return last > 0 && p.isWay(way) && way[0] == p.parent[block] && way[last] == block && p.areOnce(way)
}

// isWay reports whether each block of a list, of any numbers, is behind the one before it.
func (g *graph) isWay(l []int) bool {
	for i, b := range l {
		if !g.has(b) || i > 0 && !g.isBehind(b, l[i-1]) {
			return false
		}
	}
	return true
}

// areOnce reports whether no block stands twice in a list.
func (g *graph) areOnce(l []int) bool {
	isThere := make([]bool, len(g.Blocks))
	for _, b := range l {
		if isThere[b] {
			return false
		}
		isThere[b] = true
	}
	return true
}

// CheckProof reports whether a proof of parents holds.
func CheckProof(f api.Flow, d api.Doms) (bool, api.Errno) {
	g, e := newGraph(f)
	if e != api.OK {
		return false, e
	}
	p := &proof{tree: &tree{graph: g, parent: d.Parent}, one: d.One, two: d.Two}
	return p.holds(), api.OK
}
