package ssa

import (
	"slices"

	"argus/api"
	"argus/dom"
	"argus/flow"
)

// leaver leads a flow out of SSA form.
type leaver struct {
	*graph // in SSA form
	regs   []uint8
	made   []api.Block
	counts []bool
	spares map[uint8]int // by kinds
}

func (l *leaver) leave() {
	for b := range l.Blocks {
		l.leavePhis(b)
	}
	for b := range l.Blocks {
		for _, to := range l.behind[b] {
			if l.counts[b] && len(l.before(to)) > 1 {
				l.moveOnWay(b, to)
			}
		}
	}
}

// before returns the blocks ahead of a block to which some way leads.
func (l *leaver) before(block int) []int {
	ahead := slices.Clone(l.ahead[block])
	return slices.DeleteFunc(ahead, func(b int) bool { return !l.counts[b] })
}

// leavePhis makes a block without its phis. Where all ways come from one block they are moves already: none of them reads
// what another one writes, which could not be written there the first time.
func (l *leaver) leavePhis(block int) {
	b := &l.made[block]
	n := phiCount(b)
	var first []api.Ins
	if before := l.before(block); len(before) == 1 {
		first = asIns(l.moves(before[0], block))
	}
	b.Ins = slices.Concat(first, b.Ins[n:])
}

// moves returns what the phis of a block do on the way from one ahead of it.
func (l *leaver) moves(from, to int) []api.Pair {
	var moves []api.Pair
	place := l.place(from, to)
	for _, phi := range phis(&l.Blocks[to]) {
		moves = append(moves, api.Pair{To: phi.To, From: phi.Args[place]})
	}
	return inSequence(moves, l.spare)
}

// spare returns a register of the kind of one, which there is besides.
func (l *leaver) spare(of int) int {
	kind := l.regs[of]
	reg, hasOne := l.spares[kind]
	if !hasOne {
		reg = len(l.regs)
		if reg == api.MaxRegs {
			panic(tooMuch{})
		}
		l.regs = append(l.regs, kind)
		l.spares[kind] = reg
	}
	return reg
}

func asIns(l []api.Pair) []api.Ins {
	var moves []api.Ins
	for _, m := range l {
		moves = append(moves, api.Ins{Op: api.InsMove, To: m.To, A: m.From})
	}
	return moves
}

// moveOnWay puts moves ahead of the end of a block, if it goes on to one alone, and otherwise into blocks on the way to that.
func (l *leaver) moveOnWay(from, to int) {
	moves := l.moves(from, to)
	if len(moves) == 0 {
		return
	}
	b := &l.made[from]
	if len(l.behind[from]) == 1 && len(b.Ins)+len(moves) <= api.MaxIns && areApart(moves, &b.End) {
		b.Ins = append(b.Ins, asIns(moves)...)
		return
	}
	first := len(l.made)
	for way := range leads(&b.End) {
		if *way == to {
			*way = first
		}
	}
	l.addBlocks(asIns(moves), to)
}

// areApart reports whether moves may stand ahead of an end as well as behind it.
func areApart(moves []api.Pair, e *api.End) bool {
	for _, m := range moves {
		if slices.Contains(flow.ReadsEnd(*e), m.To) || m.From == flow.WritesEnd(*e) {
			return false
		}
	}
	return true
}

// addBlocks makes blocks with instructions; the last one goes on to a block.
func (l *leaver) addBlocks(moves []api.Ins, to int) {
	for len(moves) > 0 {
		if len(l.made) == api.MaxBlocks {
			panic(tooMuch{})
		}
		n := min(len(moves), api.MaxIns)
		next := to
		if n < len(moves) {
			next = len(l.made) + 1
		}
		l.made = append(l.made, api.Block{Ins: moves[:n:n], End: goTo(next)})
		moves = moves[n:]
	}
}

// Out returns a flow without phis that does the same as one in SSA form.
func Out(f api.Flow) (api.Flow, api.Errno) {
	if e := Check(f); e != api.OK {
		return api.Flow{}, e
	}
	g := renewed(f)
	l := &leaver{graph: newGraph(&f), regs: g.Regs, made: g.Blocks, spares: map[uint8]int{}}
	l.counts, _ = dom.Reach(f)
	if !fits(l.leave) {
		return api.Flow{}, api.ErrLimit
	}
	g.Regs, g.Blocks = l.regs, l.made
	return g, api.OK
}
