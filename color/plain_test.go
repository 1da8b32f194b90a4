package color_test

import (
	"math"
	"slices"

	"argus/api"
)

// This file finds out in a second way, which follows the words of the chapter, what package color answers.

// fieldsOf tells which fields of an instruction are registers: t To, which is written, a A, b B, l Args.
func fieldsOf(op uint8) string {
	switch op {
	case api.InsWord, api.InsNew, api.InsLoad:
		return "t"
	case api.InsMove, api.InsNot, api.InsGet, api.InsTag, api.InsSize, api.TryRemh:
		return "ta"
	case api.InsLt, api.InsLe, api.InsEq, api.InsAnd, api.InsOr, api.TryAdd, api.TrySub, api.TryMul, api.TryDiv, api.TryMod, api.TryFetch:
		return "tab"
	case api.InsMake, api.InsPhi:
		return "tl"
	case api.InsSet, api.TryAddh:
		return "ab"
	case api.InsPut, api.InsClose, api.InsSpill:
		return "a"
	case api.TryStore:
		return "abl"
	}
	return ""
}

// each calls read and write for the registers of an instruction, which become what they return.
func each(x *api.Ins, read, write func(reg int) int) {
	for _, field := range fieldsOf(x.Op) {
		switch field {
		case 't':
			x.To = write(x.To)
		case 'a':
			x.A = read(x.A)
		case 'b':
			x.B = read(x.B)
		case 'l':
			eachOf(x.Args, read)
		}
	}
}

func eachOf(l []int, turn func(reg int) int) {
	for i := range l {
		l[i] = turn(l[i])
	}
}

func eachOfEnd(x *api.End, read, write func(reg int) int) {
	switch x.Kind {
	case api.EndIf, api.EndYield:
		x.A = read(x.A)
	case api.EndReturn:
		if x.A >= 0 {
			x.A = read(x.A)
		}
	case api.EndTry:
		each(&x.Ins, read, write)
	case api.EndCall:
		if x.A >= 0 {
			x.A = write(x.A)
		}
		eachOf(x.Args, read)
	case api.EndOpen:
		x.A = write(x.A)
		eachOf(x.Args, read)
	case api.EndNext:
		x.A, x.B = read(x.A), write(x.B)
	}
}

// names is what something reads, and what it writes, or -1.
type names struct {
	reads []int
	to    int
}

func (n *names) read(reg int) int {
	n.reads = append(n.reads, reg)
	return reg
}

func (n *names) write(reg int) int {
	n.to = reg
	return reg
}

func namesOf(x api.Ins) *names {
	n := &names{to: -1}
	x.Args = slices.Clone(x.Args)
	each(&x, n.read, n.write)
	return n
}

func namesOfEnd(x api.End) *names {
	n := &names{to: -1}
	x.Args, x.Ins.Args = slices.Clone(x.Args), slices.Clone(x.Ins.Args)
	eachOfEnd(&x, n.read, n.write)
	return n
}

// waysOf returns the blocks that an end names, To first.
func waysOf(x api.End) []int {
	if x.Kind == api.EndReturn || x.Kind == api.EndSignal {
		return nil
	}
	l := []int{x.To}
	if x.Kind == api.EndIf || x.Kind == api.EndNext {
		l = append(l, x.Else)
	}
	for _, w := range x.Whens {
		l = append(l, w.To)
	}
	if x.Others >= 0 {
		l = append(l, x.Others)
	}
	return l
}

// counted tells of each block whether some way leads to it.
func counted(f api.Flow) []bool {
	counts := make([]bool, len(f.Blocks))
	var visit func(b int)
	visit = func(b int) {
		if !counts[b] {
			counts[b] = true
			for _, to := range waysOf(f.Blocks[b].End) {
				visit(to)
			}
		}
	}
	visit(0)
	return counts
}

func phisOf(b api.Block) int {
	n := 0
	for n < len(b.Ins) && b.Ins[n].Op == api.InsPhi {
		n++
	}
	return n
}

// aheadOf returns the blocks ahead of one.
func aheadOf(f api.Flow, block int) []int {
	var l []int
	for b := range f.Blocks {
		if slices.Contains(waysOf(f.Blocks[b].End), block) {
			l = append(l, b)
		}
	}
	return l
}

// spot is a place: ahead of an instruction of a block or, behind all, of its end; or, if it has a block from which it leads, on the
// way from that to the block.
type spot struct {
	isWay           bool
	from, block, at int
}

// isLive reports whether on some way from a place a register is read before anything writes it.
func isLive(f api.Flow, start spot, reg int) bool {
	seen := map[spot]bool{}
	var find func(s spot) bool
	find = func(s spot) bool {
		if seen[s] {
			return false
		}
		seen[s] = true
		b := f.Blocks[s.block]
		if s.isWay {
			n := phisOf(b)
			place := slices.Index(aheadOf(f, s.block), s.from)
			for _, x := range b.Ins[:n] {
				if x.Args[place] == reg {
					return true
				}
			}
			for _, x := range b.Ins[:n] {
				if x.To == reg {
					return false
				}
			}
			return find(spot{block: s.block, at: n})
		}
		if s.at < len(b.Ins) {
			n := namesOf(b.Ins[s.at])
			if slices.Contains(n.reads, reg) {
				return true
			}
			return n.to != reg && find(spot{block: s.block, at: s.at + 1})
		}
		n := namesOfEnd(b.End)
		if slices.Contains(n.reads, reg) {
			return true
		}
		for i, to := range waysOf(b.End) {
			// It is written on the way to its To alone.
			if (i > 0 || n.to != reg) && find(spot{true, s.block, to, 0}) {
				return true
			}
		}
		return false
	}
	return find(start)
}

// moment is a place directly behind something that writes, with what is live there, and what was written, of all kinds.
type moment struct{ live, written []int }

// momentsOf returns those of a flow.
func momentsOf(f api.Flow) []moment {
	var l []moment
	add := func(s spot, written ...int) {
		m := moment{written: written}
		for reg := range f.Regs {
			if isLive(f, s, reg) {
				m.live = append(m.live, reg)
			}
		}
		l = append(l, m)
	}
	counts := counted(f)
	var args []int
	for i := range f.Args {
		args = append(args, i)
	}
	add(spot{}, args...)
	for i, b := range f.Blocks {
		if !counts[i] {
			continue
		}
		n := phisOf(b)
		var phis []int
		for _, x := range b.Ins[:n] {
			phis = append(phis, x.To)
		}
		if n > 0 {
			add(spot{block: i, at: n}, phis...)
		}
		for j := n; j < len(b.Ins); j++ {
			if to := namesOf(b.Ins[j]).to; to >= 0 {
				add(spot{block: i, at: j + 1}, to)
			}
		}
		if to := namesOfEnd(b.End).to; to >= 0 {
			add(spot{true, i, b.End.To, 0}, to)
		}
	}
	return l
}

// plain is a flow with all its moments.
type plain struct {
	api.Flow
	moments []moment
}

func newPlain(f api.Flow) *plain { return &plain{f, momentsOf(f)} }

// meet reports whether two registers meet.
func (p *plain) meet(a, b int) bool {
	if a == b || p.Regs[a] != p.Regs[b] {
		return false
	}
	for _, m := range p.moments {
		hasA, hasB := slices.Contains(m.written, a), slices.Contains(m.written, b)
		if hasA && hasB || hasA && slices.Contains(m.live, b) || hasB && slices.Contains(m.live, a) {
			return true
		}
	}
	return false
}

// crowds returns the crowds of a kind, ascending.
func (p *plain) crowds(kind uint8) [][]int {
	var l [][]int
	for _, m := range p.moments {
		var crowd []int
		for _, reg := range slices.Concat(m.live, m.written) {
			if p.Regs[reg] == kind {
				crowd = append(crowd, reg)
			}
		}
		slices.Sort(crowd)
		l = append(l, slices.Compact(crowd))
	}
	return l
}

// pressure returns the number of registers in the greatest crowd of a kind.
func (p *plain) pressure(kind uint8) int {
	most := 0
	for _, crowd := range p.crowds(kind) {
		most = max(most, len(crowd))
	}
	return most
}

// counts tells of a register whether it is an argument, or written in a block that counts; what is read there is one of these.
func (p *plain) counts(reg int) bool {
	return slices.ContainsFunc(p.moments, func(m moment) bool { return slices.Contains(m.written, reg) })
}

// isRight reports whether a list is a right colouring.
func (p *plain) isRight(c []int) bool {
	if len(c) != len(p.Regs) {
		return false
	}
	args := map[uint8]int{}
	for a, n := range c {
		if n < 0 {
			return false
		}
		if a < p.Args {
			if n != args[p.Regs[a]] {
				return false
			}
			args[p.Regs[a]]++
		}
		for b := range a {
			if c[b] == n && p.meet(a, b) {
				return false
			}
		}
	}
	return true
}

// needs returns how many numbers a right colouring needs, and whether an int can say it.
func (p *plain) needs(c []int, kind uint8) (int, bool) {
	n := uint64(0)
	for reg := range p.Regs {
		if p.Regs[reg] == kind && p.counts(reg) {
			n = max(n, uint64(c[reg])+1)
		}
	}
	return int(n), n <= math.MaxInt
}

// isCrowd reports whether a list has registers of a kind, strictly ascending, each two of which meet.
func (p *plain) isCrowd(kind uint8, l []int) bool {
	for i, a := range l {
		if a < 0 || a >= len(p.Regs) || p.Regs[a] != kind || i > 0 && l[i-1] >= a {
			return false
		}
		for _, b := range l[:i] {
			if !p.meet(a, b) {
				return false
			}
		}
	}
	return true
}

// least returns, for a kind, how few numbers a right colouring can need, by trying all.
func (p *plain) least(kind uint8) int {
	var regs []int
	for reg := range p.Regs {
		if p.Regs[reg] == kind && p.counts(reg) {
			regs = append(regs, reg)
		}
	}
	c := make([]int, len(p.Regs))
	var try func(i, most int) bool
	try = func(i, most int) bool {
		if i == len(regs) {
			return true
		}
		for n := range most {
			isTaken := func(other int) bool { return c[other] == n && p.meet(regs[i], other) }
			c[regs[i]] = n
			if !slices.ContainsFunc(regs[:i], isTaken) && try(i+1, most) {
				return true
			}
		}
		return false
	}
	most := 0
	for !try(0, most) {
		most++
	}
	return most
}

// used returns how many registers of a kind are arguments, or stand somewhere.
func used(f api.Flow, kind uint8) int {
	isUsed := map[int]bool{}
	for i := range f.Args {
		isUsed[i] = true
	}
	note := func(n *names) {
		for _, reg := range append(n.reads, n.to) {
			isUsed[reg] = true
		}
	}
	for _, b := range f.Blocks {
		for _, x := range b.Ins {
			note(namesOf(x))
		}
		note(namesOfEnd(b.End))
	}
	n := 0
	for reg := range f.Regs {
		if isUsed[reg] && f.Regs[reg] == kind {
			n++
		}
	}
	return n
}
