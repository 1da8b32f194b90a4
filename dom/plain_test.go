package dom_test

import (
	"slices"
	"testing"

	"argus/api"
	"argus/flow"
)

// A second way to tell all: from the words of the chapter, with lists of what is behind blocks, and without regard to time.

// plain is a flow with the blocks behind each of its blocks, which of them count, and which dominate others.
type plain struct {
	api.Flow
	behind    [][]int
	counts    []bool
	dominates [][]bool
}

func plainOf(t *testing.T, f api.Flow) *plain {
	t.Helper()
	p := &plain{Flow: f}
	for b := range f.Blocks {
		l, e := flow.Behind(f, b)
		if e != api.OK {
			t.Fatalf("%d: %+v", e, f)
		}
		p.behind = append(p.behind, l)
	}
	p.counts = p.from(0, -1)
	for a := range f.Blocks {
		without := p.from(0, a)
		for b, is := range without {
			without[b] = p.counts[a] && p.counts[b] && !is
		}
		p.dominates = append(p.dominates, without)
	}
	return p
}

// from returns the blocks to which ways lead from a block that do not have another one.
func (p *plain) from(block, without int) []bool {
	found := make([]bool, len(p.Blocks))
	if block == without {
		return found
	}
	found[block] = true
	for isNew := true; isNew; {
		isNew = false
		for b, l := range p.behind {
			for _, to := range l {
				if found[b] && !found[to] && to != without {
					found[to], isNew = true, true
				}
			}
		}
	}
	return found
}

func (p *plain) strictly(a, b int) bool { return a != b && p.dominates[a][b] }

// parent returns the block that dominates another one strictly, and that all other such ones dominate.
func (p *plain) parent(block int) int {
	for a := range p.Blocks {
		is := p.strictly(a, block)
		for b := range p.Blocks {
			is = is && (!p.strictly(b, block) || p.dominates[b][a])
		}
		if is {
			return a
		}
	}
	return -1
}

// order visits blocks as the chapter says.
func (p *plain) order(block int, visited map[int]bool) []int {
	visited[block] = true
	var noted []int
	for _, to := range p.behind[block] {
		if !visited[to] {
			noted = append(p.order(to, visited), noted...)
		}
	}
	return append([]int{block}, noted...)
}

func (p *plain) frontier(a int) []int {
	var l []int
	for c := range p.Blocks {
		is := false
		for b := range p.Blocks {
			is = is || p.dominates[a][b] && slices.Contains(p.behind[b], c)
		}
		if is && !p.strictly(a, c) {
			l = append(l, c)
		}
	}
	return l
}

func (p *plain) loops() []api.Loop {
	var l []api.Loop
	for h := range p.Blocks {
		isIn := map[int]bool{}
		for b := range p.Blocks {
			if !p.dominates[h][b] || !slices.Contains(p.behind[b], h) {
				continue
			}
			isIn[h] = true
			for from := range p.Blocks {
				if p.counts[from] && p.from(from, h)[b] {
					isIn[from] = true
				}
			}
		}
		var body []int
		for b := range p.Blocks {
			if isIn[b] {
				body = append(body, b)
			}
		}
		if len(body) > 0 {
			l = append(l, api.Loop{Head: h, Body: body})
		}
	}
	return l
}

// reducible looks at all sets of blocks that count: each can be passed in a circle if ways within it lead from each to each.
func (p *plain) reducible() bool {
	for set := 1; set < 1<<len(p.Blocks); set++ {
		if p.isCircle(set) && !p.isDominated(set) {
			return false
		}
	}
	return true
}

func (p *plain) isCircle(set int) bool {
	for a := range p.Blocks {
		if set>>a&1 == 0 {
			continue
		}
		found := 0
		for range p.Blocks {
			for b, l := range p.behind {
				for _, to := range l {
					if p.counts[b] && (b == a || found>>b&1 == 1) && set>>b&1 == 1 && set>>to&1 == 1 {
						found |= 1 << to
					}
				}
			}
		}
		if found != set {
			return false
		}
	}
	return true
}

// isDominated reports whether a block of a set dominates all others of it.
func (p *plain) isDominated(set int) bool {
	for a := range p.Blocks {
		is := set>>a&1 == 1
		for b := range p.Blocks {
			is = is && (set>>b&1 == 0 || p.dominates[a][b])
		}
		if is {
			return true
		}
	}
	return false
}

// isReducible is a third way: blocks are drawn into the one that is ahead of them alone, and circles of one block are left out.
func (p *plain) isReducible() bool {
	ahead := map[int]map[int]bool{}
	for b := range p.Blocks {
		if p.counts[b] {
			ahead[b] = map[int]bool{}
		}
	}
	for b, l := range p.behind {
		for _, to := range l {
			if p.counts[b] {
				ahead[to][b] = true
			}
		}
	}
	for isNew := true; isNew; {
		isNew = false
		for b := range p.Blocks {
			delete(ahead[b], b)
			if b == 0 || len(ahead[b]) != 1 {
				continue
			}
			for into := range ahead[b] {
				for _, l := range ahead {
					if l[b] {
						delete(l, b)
						l[into] = true
					}
				}
			}
			delete(ahead, b)
			isNew = true
		}
	}
	return len(ahead) == 1
}

// holds reports whether a proof of parents holds: sentence by sentence.
func (p *plain) holds(d *api.Doms) bool {
	n := len(p.Blocks)
	if len(d.Parent) != n || len(d.One) != n || len(d.Two) != n || d.Parent[0] != -1 {
		return false
	}
	up := make([][]int, n) // the parents, one after the other
	for b := range up {
		for a := d.Parent[b]; a != -1; a = d.Parent[a] {
			if a < 0 || a >= n || len(up[b]) > n {
				return false
			}
			up[b] = append(up[b], a)
		}
		if len(up[b]) > 0 && !slices.Contains(up[b], 0) {
			return false
		}
	}
	isOut := func(b int) bool { return b > 0 && len(up[b]) == 0 }
	for b, l := range p.behind {
		for _, to := range l {
			if isOut(b) {
				continue
			}
			if isOut(to) || to > 0 && b != d.Parent[to] && !slices.Contains(up[b], d.Parent[to]) {
				return false
			}
		}
		one, two := d.One[b], d.Two[b]
		if b == 0 || isOut(b) {
			if len(one) > 0 || len(two) > 0 {
				return false
			}
			continue
		}
		if !p.isWay(one) || !p.isWay(two) || !areEnds(one, d.Parent[b], b) || !areEnds(two, d.Parent[b], b) {
			return false
		}
		times := map[int]int{}
		for _, c := range slices.Concat(one, two) {
			times[c]++
			if most := 1; times[c] > most && c != b && c != d.Parent[b] || times[c] > most+1 {
				return false
			}
		}
	}
	return true
}

func areEnds(way []int, first, last int) bool {
	return len(way) > 1 && way[0] == first && way[len(way)-1] == last
}

func (p *plain) isWay(l []int) bool {
	for i, b := range l {
		if b < 0 || b >= len(p.Blocks) || i > 0 && !slices.Contains(p.behind[l[i-1]], b) {
			return false
		}
	}
	return true
}

// writesOn reports whether the end of a block writes a register on the way to another one.
func (p *plain) writesOn(from, to, reg int) bool {
	e := p.Blocks[from].End
	if flow.WritesEnd(e) != reg || e.To != to || e.Others == to || e.Kind == api.EndNext && e.Else == to {
		return false
	}
	for _, w := range e.Whens {
		if w.To == to {
			return false
		}
	}
	return true
}

// phiReads reports whether a phi of a block reads a register on the way from another one.
func (p *plain) phiReads(from, to, reg int) bool {
	at := 0
	for b, l := range p.behind[:from] {
		if b < from && slices.Contains(l, to) {
			at++
		}
	}
	for _, x := range p.Blocks[to].Ins {
		if x.Op == api.InsPhi && x.Args[at] == reg {
			return true
		}
	}
	return false
}

// readsFirst tells what the instructions of a block do first with a register: 1 if it is read, 2 if it is written, otherwise 0.
func (p *plain) readsFirst(block, reg int) int {
	for _, x := range p.Blocks[block].Ins {
		switch {
		case slices.Contains(flow.Reads(x), reg):
			return 1
		case flow.Writes(x) == reg:
			return 2
		}
	}
	return 0
}

// live returns the least sets, for one register: at the beginnings of blocks, and behind their instructions.
func (p *plain) live(reg int) (in, out []bool) {
	n := len(p.Blocks)
	in, out = make([]bool, n), make([]bool, n)
	for range 2 * n {
		for b := range p.Blocks {
			if !p.counts[b] {
				continue
			}
			out[b] = out[b] || slices.Contains(flow.ReadsEnd(p.Blocks[b].End), reg)
			for _, to := range p.behind[b] {
				out[b] = out[b] || (in[to] || p.phiReads(b, to, reg)) && !p.writesOn(b, to, reg)
			}
			first := p.readsFirst(b, reg)
			in[b] = in[b] || first == 1 || first == 0 && out[b]
		}
	}
	return in, out
}

// isWitness goes a way, and looks at each place for who writes the register.
func (p *plain) isWitness(block, reg int, way []int) bool {
	if len(way) == 0 || len(way) > 1200 || way[0] != block || !p.isWay(way) {
		return false
	}
	for i, b := range way {
		if !p.counts[b] {
			return false
		}
		if i > 0 && p.writesOn(way[i-1], b, reg) {
			return false
		}
		isLast := i == len(way)-1
		if i > 0 && isLast && p.phiReads(way[i-1], b, reg) {
			return true
		}
		first := p.readsFirst(b, reg)
		if isLast {
			return first == 1 || first == 0 && slices.Contains(flow.ReadsEnd(p.Blocks[b].End), reg)
		}
		for _, x := range p.Blocks[b].Ins {
			if flow.Writes(x) == reg {
				return false
			}
		}
	}
	return false
}
