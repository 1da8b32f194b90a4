package dom

import (
	"math/bits"
	"slices"

	"argus/api"
	"argus/flow"
)

// set is a set of registers.
type set [(api.MaxRegs + 63) / 64]uint64

func (s *set) add(reg int) { s[reg/64] |= 1 << (reg % 64) }

func (s *set) drop(reg int) { s[reg/64] &^= 1 << (reg % 64) }

func (s *set) has(reg int) bool { return s[reg/64]>>(reg%64)&1 == 1 }

// addAll adds what another set has.
func (s *set) addAll(t *set) {
	for i := range s {
		s[i] |= t[i]
	}
}

// dropAll drops what another set has.
func (s *set) dropAll(t *set) {
	for i := range s {
		s[i] &^= t[i]
	}
}

// list returns what is in a set, ascending.
func (s *set) list() []int {
	var l []int
	for i, word := range s {
		for ; word != 0; word &= word - 1 {
			l = append(l, 64*i+bits.TrailingZeros64(word))
		}
	}
	return l
}

// lists returns what is in each of some sets.
func lists(l []set) [][]int {
	out := make([][]int, len(l))
	for i := range l {
		out[i] = l[i].list()
	}
	return out
}

// phis returns the phis of a block.
func (g *graph) phis(block int) []api.Ins {
	l := g.Blocks[block].Ins
	n := 0
	for n < len(l) && l[n].Op == api.InsPhi {
		n++
	}
	return l[:n:n]
}

// written returns the register that the end of a block writes on its way to another one, or -1.
func (g *graph) written(from, to int) int {
	e := &g.Blocks[from].End
	if others := targets(e)[1:]; to != e.To || slices.Contains(others, to) {
		return -1
	}
	return flow.WritesEnd(*e)
}

// usage is what the instructions of a block read before they write it, and what they write.
type usage struct{ read, written set }

func (g *graph) usage(block int) usage {
	var u usage
	for _, x := range g.Blocks[block].Ins {
		u.reads(flow.Reads(x))
		if to := flow.Writes(x); to >= 0 {
			u.written.add(to)
		}
	}
	return u
}

func (u *usage) reads(l []int) {
	for _, reg := range l {
		if !u.written.has(reg) {
			u.read.add(reg)
		}
	}
}

// life is a graph with what is live at the beginnings of its blocks, and behind their instructions.
type life struct {
	*graph
	in, out []set
}

func newLife(g *graph) *life {
	l := &life{graph: g, in: make([]set, len(g.Blocks)), out: make([]set, len(g.Blocks))}
	l.find()
	return l
}

// find looks at a block again whenever more is live in one behind it.
func (l *life) find() {
	usages, isWaiting := make([]usage, len(l.Blocks)), make([]bool, len(l.Blocks))
	for b := range l.counting() {
		usages[b], isWaiting[b] = l.usage(b), true
	}
	for waiting := turned(l.order); len(waiting) > 0; waiting = waiting[1:] {
		now := waiting[0]
		isWaiting[now] = false
		l.out[now] = l.behindInstructions(now)
		in := l.out[now]
		in.dropAll(&usages[now].written)
		in.addAll(&usages[now].read)
		if in == l.in[now] {
			continue
		}
		l.in[now] = in
		for b := range l.before(now) {
			if !isWaiting[b] {
				isWaiting[b] = true
				waiting = append(waiting, b)
			}
		}
	}
}

// behindInstructions returns what is live behind the instructions of a block, as far as that is known of those behind it.
func (l *life) behindInstructions(block int) set {
	var out set
	for _, to := range l.behind[block] {
		onWay := l.in[to]
		place, _ := slices.BinarySearch(l.ahead[to], block)
		for _, phi := range l.phis(to) {
			onWay.add(phi.Args[place])
		}
		if reg := l.written(block, to); reg >= 0 {
			onWay.drop(reg)
		}
		out.addAll(&onWay)
	}
	for _, reg := range flow.ReadsEnd(l.Blocks[block].End) {
		out.add(reg)
	}
	return out
}

// Live returns which registers are live at the beginning of each block, and behind its instructions.
func Live(f api.Flow) (in, out [][]int, e api.Errno) {
	g, e := newGraph(f)
	if e != api.OK {
		return nil, nil, e
	}
	l := newLife(g)
	return lists(l.in), lists(l.out), api.OK
}
