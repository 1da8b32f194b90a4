package color

import (
	"iter"
	"slices"

	"argus/api"
	"argus/dom"
	"argus/flow"
)

// work is a valid flow at work, with what stands around its blocks, and what is live in them.
type work struct {
	*api.Flow
	counts        []bool  // of each block, whether some way leads to it
	behind, ahead [][]int // of each block, ascending and each once
	in, out       []set   // of each block, what is live at its beginning, and behind its instructions
	kinds         [api.RegIter + 1]set
}

func newWork(f api.Flow) *work {
	n := len(f.Blocks)
	w := &work{Flow: &f, behind: make([][]int, n), ahead: make([][]int, n), in: make([]set, n), out: make([]set, n)}
	w.counts, _ = dom.Reach(f)
	in, out, _ := dom.Live(f)
	for b := range f.Blocks {
		w.in[b], w.out[b] = setOf(in[b]...), setOf(out[b]...)
		for to := range ways(&f.Blocks[b].End) {
			if l := w.ahead[*to]; len(l) == 0 || l[len(l)-1] != b {
				w.ahead[*to] = append(l, b)
				w.behind[b] = append(w.behind[b], *to)
			}
		}
		slices.Sort(w.behind[b])
	}
	for reg, kind := range f.Regs {
		w.kinds[kind].add(reg)
	}
	return w
}

// isKind reports whether a kind is one of registers.
func isKind(kind uint8) bool { return api.RegWord <= kind && kind <= api.RegIter }

// has reports whether there is a register with a number.
func (w *work) has(reg int) bool { return 0 <= reg && reg < len(w.Regs) }

// counting yields the blocks that count.
func (w *work) counting() iter.Seq2[int, *api.Block] {
	return func(yield func(block int, b *api.Block) bool) {
		for i := range w.Blocks {
			if w.counts[i] && !yield(i, &w.Blocks[i]) {
				return
			}
		}
	}
}

// before returns the blocks ahead of a block that count.
func (w *work) before(block int) []int {
	return slices.DeleteFunc(slices.Clone(w.ahead[block]), func(b int) bool { return !w.counts[b] })
}

// lives returns what is live ahead of each instruction of a block, and ahead of its end.
func (w *work) lives(block int) []set {
	l := w.Blocks[block].Ins
	lives := make([]set, len(l)+1)
	now := w.out[block]
	lives[len(l)] = now
	for i := len(l) - 1; i >= 0; i-- {
		if reg := flow.Writes(l[i]); reg >= 0 {
			now.drop(reg)
		}
		now = now.or(setOf(flow.Reads(l[i])...))
		lives[i] = now
	}
	return lives
}

// arg returns what a phi of a block reads on the way from one ahead of it.
func (w *work) arg(phi *api.Ins, from, to int) int {
	place, _ := slices.BinarySearch(w.ahead[to], from)
	return phi.Args[place]
}

// onWay returns what is live on the way from one block to another one.
func (w *work) onWay(from, to int) set {
	live, b := w.in[to], &w.Blocks[to]
	for i := range phiCount(b) {
		live.add(w.arg(&b.Ins[i], from, to))
	}
	return live
}

// place is one directly behind something that writes.
type place struct {
	live    set
	written []int // at one time
}

// crowd returns the crowds of all kinds at a place.
func (p place) crowd() set { return p.live.or(setOf(p.written...)) }

// placesIn yields the places in a block, and on the way behind its end; if that leads to its To in another way, too, the
// register that it writes is there all the same.
func (w *work) placesIn(block int) iter.Seq[place] {
	return func(yield func(p place) bool) {
		b, lives := &w.Blocks[block], w.lives(block)
		if block == 0 && !yield(place{lives[0], upTo(w.Args)}) {
			return
		}
		n := phiCount(b)
		phis := place{live: lives[n]}
		for _, phi := range b.Ins[:n] {
			phis.written = append(phis.written, phi.To)
		}
		if n > 0 && !yield(phis) {
			return
		}
		for s := range steps(b) {
			to := s.writes()
			if s.at < n || len(to) == 0 {
				continue
			}
			p := place{written: to}
			if s.isEnd() {
				p.live = w.onWay(block, s.End.To)
			} else {
				p.live = lives[s.at+1]
			}
			if !yield(p) {
				return
			}
		}
	}
}

// places yields the places in all blocks that count.
func (w *work) places() iter.Seq[place] {
	return func(yield func(p place) bool) {
		for block := range w.counting() {
			for p := range w.placesIn(block) {
				if !yield(p) {
					return
				}
			}
		}
	}
}

// crowd returns a greatest crowd of a kind.
func (w *work) crowd(kind uint8) set {
	var greatest set
	for p := range w.places() {
		if crowd := p.crowd().and(w.kinds[kind]); crowd.size() > greatest.size() {
			greatest = crowd
		}
	}
	return greatest
}

// pair is two registers.
type pair struct{ less, more int }

func pairOf(a, b int) pair { return pair{min(a, b), max(a, b)} }

// pairs returns those of some registers that meet.
func (w *work) pairs(of set) map[pair]bool {
	meet := map[pair]bool{}
	for p := range w.places() {
		crowd := p.crowd().and(of)
		for reg := range crowd.and(setOf(p.written...)).each() {
			for other := range crowd.and(w.kinds[w.Regs[reg]]).each() {
				if other != reg {
					meet[pairOf(reg, other)] = true
				}
			}
		}
	}
	return meet
}

// upTo returns the numbers from 0 to less than n.
func upTo(n int) []int {
	l := make([]int, n)
	for i := range l {
		l[i] = i
	}
	return l
}
