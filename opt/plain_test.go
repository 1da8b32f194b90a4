package opt_test

import (
	"slices"

	"argus/api"
)

// This file finds out in a second way, which follows the words of the chapter, what package opt answers.

// fieldsOf tells which fields of an instruction are registers: t To, which is written, a A, b B, l Args.
func fieldsOf(op uint8) string {
	switch op {
	case api.InsWord, api.InsNew, api.InsLoad:
		return "t"
	case api.InsMove, api.InsNot, api.InsGet, api.InsTag, api.InsSize, api.TryRemh:
		return "ta"
	case api.InsLt, api.InsLe, api.InsEq, api.InsAnd, api.InsOr, api.TryAdd, api.TrySub, api.TryMul, api.TryDiv, api.TryMod, api.TryFetch:
		return "tab"
	case api.InsMake, api.InsPhi:
		return "tl"
	case api.InsSet, api.TryAddh:
		return "ab"
	case api.InsPut, api.InsClose, api.InsSpill:
		return "a"
	case api.TryStore:
		return "abl"
	}
	return ""
}

// endFieldsOf tells it of an end: a A, which is read, w A, which is written, b B, which is written, l Args, i Ins.
func endFieldsOf(kind uint8) string {
	switch kind {
	case api.EndIf, api.EndReturn, api.EndYield:
		return "a"
	case api.EndTry:
		return "i"
	case api.EndCall, api.EndOpen:
		return "wl"
	case api.EndNext:
		return "ab"
	}
	return ""
}

// change tells by which register one is replaced, where it is read or written.
type change struct{ read, written func(reg int) int }

func stay(reg int) int { return reg }

func (c change) all(l []int) []int {
	out := slices.Clone(l)
	for i := range out {
		out[i] = c.read(out[i])
	}
	return out
}

func (c change) ins(x api.Ins) api.Ins {
	for _, field := range fieldsOf(x.Op) {
		switch field {
		case 't':
			x.To = c.written(x.To)
		case 'a':
			x.A = c.read(x.A)
		case 'b':
			x.B = c.read(x.B)
		case 'l':
			x.Args = c.all(x.Args)
		}
	}
	return x
}

func (c change) end(x api.End) api.End {
	for _, field := range endFieldsOf(x.Kind) {
		switch {
		case field == 'i':
			x.Ins = c.ins(x.Ins)
		case field == 'l':
			x.Args = c.all(x.Args)
		case field == 'b':
			x.B = c.written(x.B)
		case field == 'w' && x.A >= 0:
			x.A = c.written(x.A)
		case field == 'a' && x.A >= 0:
			x.A = c.read(x.A)
		}
	}
	return x
}

func (c change) flow(f api.Flow) api.Flow {
	f = copiedFlow(f)
	for b := range f.Blocks {
		for i, x := range f.Blocks[b].Ins {
			f.Blocks[b].Ins[i] = c.ins(x)
		}
		f.Blocks[b].End = c.end(f.Blocks[b].End)
	}
	return f
}

// readsOf returns what an instruction reads, the Args of a phi among that; and what it writes, or -1.
func readsOf(x api.Ins) (reads []int, to int) {
	to = -1
	change{
		func(reg int) int { reads = append(reads, reg); return reg },
		func(reg int) int { to = reg; return reg },
	}.ins(x)
	return reads, to
}

func readsOfEnd(x api.End) (reads []int, to int) {
	to = -1
	change{
		func(reg int) int { reads = append(reads, reg); return reg },
		func(reg int) int { to = reg; return reg },
	}.end(x)
	return reads, to
}

// waysOf returns the blocks that an end names, To first.
func waysOf(x api.End) []int {
	if x.Kind == api.EndReturn || x.Kind == api.EndSignal {
		return nil
	}
	l := []int{x.To}
	if x.Kind == api.EndIf || x.Kind == api.EndNext {
		l = append(l, x.Else)
	}
	for _, w := range x.Whens {
		l = append(l, w.To)
	}
	if x.Others != -1 {
		l = append(l, x.Others)
	}
	return l
}

// aheadOf returns the blocks ahead of one.
func aheadOf(f api.Flow, block int) []int {
	var l []int
	for b := range f.Blocks {
		if slices.Contains(waysOf(f.Blocks[b].End), block) {
			l = append(l, b)
		}
	}
	return l
}

// counted returns the blocks to which some way leads that does not go through another one (or -1).
func counted(f api.Flow, without int) []bool {
	counts := make([]bool, len(f.Blocks))
	var visit func(b int)
	visit = func(b int) {
		if b != without && !counts[b] {
			counts[b] = true
			for _, to := range waysOf(f.Blocks[b].End) {
				visit(to)
			}
		}
	}
	visit(0)
	return counts
}

// plain is a flow in SSA form, with a list of facts.
type plain struct {
	api.Flow
	facts    []api.Fact
	counts   []bool
	passes   [][]bool       // the blocks to which a way leads without another one
	writers  map[int][2]int // a block, and an instruction of it, or how many it has for the end
	isNever  map[int]bool
	isSame   map[[2]int]bool
	mayLeads map[[2]int]bool
}

func newPlain(f api.Flow, facts []api.Fact) *plain {
	p := &plain{f, facts, counted(f, -1), make([][]bool, len(f.Blocks)), map[int][2]int{}, map[int]bool{}, map[[2]int]bool{}, map[[2]int]bool{}}
	for b := range f.Blocks {
		p.passes[b] = counted(f, b)
		for i, x := range f.Blocks[b].Ins {
			if _, to := readsOf(x); to >= 0 {
				p.writers[to] = [2]int{b, i}
			}
		}
		if _, to := readsOfEnd(f.Blocks[b].End); to >= 0 {
			p.writers[to] = [2]int{b, len(f.Blocks[b].Ins)}
		}
	}
	p.listen()
	return p
}

// listen notes what the facts say, as far as they are about what there is.
func (p *plain) listen() {
	clear(p.isNever)
	clear(p.isSame)
	clear(p.mayLeads)
	for _, x := range p.facts {
		switch x.Kind {
		case api.FactSame:
			p.isSame[[2]int{x.Reg, x.Of}] = true
		case api.FactNever:
			p.isNever[x.Reg] = true
		}
	}
	for b := range p.Blocks {
		for _, to := range p.leads(b) {
			p.mayLeads[[2]int{b, to}] = true
		}
	}
}

func (p *plain) isReg(reg int, kinds ...uint8) bool {
	return reg >= 0 && reg < len(p.Regs) && slices.Contains(kinds, p.Regs[reg])
}

// said reports whether a fact is as said.
func (p *plain) said(x api.Fact) bool {
	switch x.Kind {
	case api.FactRange:
		isIn := x.Low >= -api.MaxInt && x.High <= api.MaxInt
		return p.isReg(x.Reg, api.RegWord) && isIn && x.Low <= x.High && x.Of == 0
	case api.FactSame:
		return p.isReg(x.Reg, api.RegWord, api.RegRef) && p.isReg(x.Of, p.Regs[x.Reg]) && x.Of != x.Reg && x.Low == 0 && x.High == 0
	case api.FactNever:
		return x.Reg >= 0 && x.Reg < len(p.Blocks) && x.Low == 0 && x.High == 0 && x.Of == 0
	}
	return false
}

// rangeOf returns the range of a word.
func (p *plain) rangeOf(reg int) (low, high int) {
	for _, x := range p.facts {
		if x.Kind == api.FactRange && x.Reg == reg {
			return x.Low, x.High
		}
	}
	return -api.MaxInt, api.MaxInt
}

func (p *plain) mayBeZero(reg int) bool {
	low, high := p.rangeOf(reg)
	return low <= 0 && high >= 0
}

func (p *plain) mayBeTrue(reg int) bool {
	low, high := p.rangeOf(reg)
	return low != 0 || high != 0
}

// results returns all sums, differences or products of the ends of both ranges.
func (p *plain) results(x api.Ins) []int {
	var l []int
	a, b := [2]int{}, [2]int{}
	a[0], a[1] = p.rangeOf(x.A)
	b[0], b[1] = p.rangeOf(x.B)
	for _, m := range a {
		for _, n := range b {
			switch x.Op {
			case api.TryAdd:
				l = append(l, m+n)
			case api.TrySub:
				l = append(l, m-n)
			case api.TryMul:
				l = append(l, m*n)
			case api.TryDiv:
				q := m / n
				for q*n > m {
					q--
				}
				l = append(l, q)
			}
		}
	}
	return l
}

// signals returns what a Try may signal.
func (p *plain) signals(x api.Ins) []string {
	switch x.Op {
	case api.TryAdd, api.TrySub, api.TryMul:
		for _, n := range p.results(x) {
			if n < -api.MaxInt || n > api.MaxInt {
				return []string{"overflow"}
			}
		}
	case api.TryDiv, api.TryMod:
		if p.mayBeZero(x.B) {
			return []string{"zerodivide"}
		}
	case api.TryAddh:
		return []string{"overflow"}
	case api.TryRemh, api.TryFetch, api.TryStore:
		return []string{"bounds"}
	}
	return nil
}

// leads returns the blocks to which the end of a block may lead.
func (p *plain) leads(block int) []int {
	e := p.Blocks[block].End
	var l []int
	switch {
	case p.isNever[block]:
	case e.Kind == api.EndIf:
		if p.mayBeTrue(e.A) {
			l = append(l, e.To)
		}
		if p.mayBeZero(e.A) {
			l = append(l, e.Else)
		}
	case e.Kind == api.EndTry:
		l = append(l, e.To)
		for _, signal := range p.signals(e.Ins) {
			to := e.Others
			for _, w := range e.Whens {
				if w.Name == signal {
					to = w.To
				}
			}
			if to >= 0 {
				l = append(l, to)
			}
		}
	default:
		return waysOf(e)
	}
	return l
}

// dominates reports whether both blocks count, and every way to b has a.
func (p *plain) dominates(a, b int) bool {
	return p.counts[a] && p.counts[b] && (a == b || !p.passes[a][b])
}

// standsAhead reports whether a register stands ahead of another one, which has a writer. (Nothing does by an end that leads
// to the block 0, which is entered at the beginning.)
func (p *plain) standsAhead(of, reg int) bool {
	w, hasOne := p.writers[of]
	at := p.writers[reg]
	switch {
	case of < p.Args:
		return true
	case !hasOne:
		return false
	case w[1] == len(p.Blocks[w[0]].Ins):
		l := waysOf(p.Blocks[w[0]].End)
		to := l[0]
		return to != 0 && !slices.Contains(l[1:], to) && slices.Equal(aheadOf(p.Flow, to), []int{w[0]}) && p.dominates(to, at[0])
	case w[0] == at[0]:
		return w[1] < at[1]
	}
	return p.dominates(w[0], at[0])
}

// numbers returns numbers that a range of what an instruction writes has to have; between them it has all, anyway.
func (p *plain) numbers(x api.Ins) []int {
	a, b := [2]int{}, [2]int{}
	a[0], a[1] = p.rangeOf(x.A)
	b[0], b[1] = p.rangeOf(x.B)
	truth := func(mayBeZero, mayBeOne bool) (l []int) {
		if mayBeZero {
			l = append(l, 0)
		}
		if mayBeOne {
			l = append(l, 1)
		}
		return l
	}
	switch x.Op {
	case api.InsWord:
		return []int{x.N}
	case api.InsMove:
		return a[:]
	case api.InsLt:
		return truth(!(a[1] < b[0]), !(a[0] >= b[1]))
	case api.InsLe:
		return truth(!(a[1] <= b[0]), !(a[0] > b[1]))
	case api.InsEq:
		areOne := a[0] == a[1] && a[0] == b[0] && b[0] == b[1]
		isRef := p.Regs[x.A] == api.RegRef
		return truth(isRef || !areOne, isRef || !(a[1] < b[0] || b[1] < a[0]))
	case api.InsAnd:
		return truth(p.mayBeZero(x.A) || p.mayBeZero(x.B), p.mayBeTrue(x.A) && p.mayBeTrue(x.B))
	case api.InsOr:
		return truth(p.mayBeZero(x.A) && p.mayBeZero(x.B), p.mayBeTrue(x.A) || p.mayBeTrue(x.B))
	case api.InsNot:
		return truth(p.mayBeTrue(x.A), p.mayBeZero(x.A))
	case api.InsTag:
		return []int{0, 5}
	case api.InsSize:
		return []int{0, 200}
	case api.InsPhi:
		return p.taken(x)
	}
	return p.tried(x)
}

// taken returns the ends of the ranges of what a phi may take.
func (p *plain) taken(x api.Ins) []int {
	var l []int
	block := p.writers[x.To][0]
	for i, from := range aheadOf(p.Flow, block) {
		if p.mayLeads[[2]int{from, block}] {
			low, high := p.rangeOf(x.Args[i])
			l = append(l, low, high)
		}
	}
	return l
}

// tried returns the ends of what an end may write by trying something.
func (p *plain) tried(x api.Ins) []int {
	low, high := p.rangeOf(x.B)
	switch {
	case x.Op == api.TryAdd || x.Op == api.TrySub || x.Op == api.TryMul:
		least, greatest := slices.Min(p.results(x)), slices.Max(p.results(x))
		if least > api.MaxInt || greatest < -api.MaxInt {
			return nil
		}
		return []int{max(least, -api.MaxInt), min(greatest, api.MaxInt)}
	case x.Op == api.TryDiv && low > 0:
		return p.results(x)
	case x.Op == api.TryMod && low == 0 && high == 0:
		return []int{0}
	case x.Op == api.TryMod:
		return []int{0, max(low, -low, high, -high) - 1}
	}
	return []int{-api.MaxInt, api.MaxInt}
}

// follows reports whether a fact, which is as said, follows from all.
func (p *plain) follows(x api.Fact) bool {
	w, isWritten := p.writers[x.Reg]
	switch {
	case x.Kind == api.FactNever:
		return x.Reg != 0 && !slices.ContainsFunc(aheadOf(p.Flow, x.Reg), func(from int) bool { return p.mayLeads[[2]int{from, x.Reg}] })
	case x.Kind == api.FactRange && x.Reg < p.Args:
		return x.Low == -api.MaxInt && x.High == api.MaxInt
	case x.Kind == api.FactRange && (!isWritten || p.isNever[w[0]]):
		return true
	case x.Kind == api.FactRange:
		isOut := func(n int) bool { return n < x.Low || n > x.High }
		return !slices.ContainsFunc(p.numbers(p.ins(x.Reg)), isOut)
	case !isWritten || !p.standsAhead(x.Of, x.Reg):
		return false
	case p.isNever[w[0]]:
		return true
	}
	return p.isInstruction(x.Reg) && p.isOf(p.ins(x.Reg), x.Of)
}

func (p *plain) isInstruction(reg int) bool {
	w, isWritten := p.writers[reg]
	return isWritten && w[1] < len(p.Blocks[w[0]].Ins)
}

// ins returns what writes a register that has a writer.
func (p *plain) ins(reg int) api.Ins {
	w := p.writers[reg]
	if b := p.Blocks[w[0]]; w[1] == len(b.Ins) {
		return b.End.Ins
	}
	return p.Blocks[w[0]].Ins[w[1]]
}

// isOf reports whether an instruction writes what a register has that stands ahead.
func (p *plain) isOf(x api.Ins, of int) bool {
	is := func(reg int) bool { return reg == of || p.isSame[[2]int{reg, of}] }
	switch x.Op {
	case api.InsMove:
		return is(x.A)
	case api.InsPhi:
		block := p.writers[x.To][0]
		for i, from := range aheadOf(p.Flow, block) {
			if p.mayLeads[[2]int{from, block}] && !is(x.Args[i]) && x.Args[i] != x.To {
				return false
			}
		}
		return true
	case api.InsWord, api.InsLt, api.InsLe, api.InsEq, api.InsAnd, api.InsOr, api.InsNot, api.InsTag:
		if !p.isInstruction(of) {
			return false
		}
		y := p.ins(of)
		return x.Op == y.Op && x.N == y.N && p.areOne(x.A, y.A) && p.areOne(x.B, y.B)
	}
	return false
}

// areOne reports whether two registers are, or are said to be the same, or both the same as one.
func (p *plain) areOne(a, b int) bool {
	if a == b || p.isSame[[2]int{a, b}] || p.isSame[[2]int{b, a}] {
		return true
	}
	for other := range p.Regs {
		if p.isSame[[2]int{a, other}] && p.isSame[[2]int{b, other}] {
			return true
		}
	}
	return false
}

// hold reports whether the facts do.
func (p *plain) hold() bool {
	isNone := func(x api.Fact) bool { return !p.said(x) }
	isNot := func(x api.Fact) bool { return !p.follows(x) }
	return !slices.ContainsFunc(p.facts, isNone) && !slices.ContainsFunc(p.facts, isNot)
}

// holding returns those of some facts that hold together: none of the others can be added.
func holding(f api.Flow, l []api.Fact) []api.Fact {
	p := newPlain(f, nil)
	p.facts = slices.DeleteFunc(slices.Clone(l), func(x api.Fact) bool { return !p.said(x) })
	p.listen()
	for {
		n := len(p.facts)
		p.facts = slices.DeleteFunc(slices.Clone(p.facts), func(x api.Fact) bool { return !p.follows(x) })
		if len(p.facts) == n {
			return p.facts
		}
		p.listen()
	}
}

// plainFold folds a flow by facts that hold.
func plainFold(f api.Flow, facts []api.Fact) api.Flow {
	p := newPlain(f, facts)
	g := change{p.instead, stay}.flow(f)
	for b := range g.Blocks {
		for i, x := range g.Blocks[b].Ins {
			switch x.Op {
			case api.InsMove, api.InsLt, api.InsLe, api.InsEq, api.InsAnd, api.InsOr, api.InsNot, api.InsTag:
				if low, high := p.rangeOf(x.To); low == high {
					g.Blocks[b].Ins[i] = number(x.To, low)
				}
			}
		}
		g.Blocks[b] = p.foldedEnd(f.Blocks[b].End, g.Blocks[b])
	}
	return withoutArgs(f, g)
}

func (p *plain) instead(reg int) int {
	for _, x := range p.facts {
		if x.Kind == api.FactSame && x.Reg == reg {
			return p.instead(x.Of)
		}
	}
	return reg
}

// foldedEnd folds the end of a block; what is known of it is known by how it was.
func (p *plain) foldedEnd(was api.End, b api.Block) api.Block {
	switch was.Kind {
	case api.EndIf:
		if !p.mayBeZero(was.A) {
			b.End = goTo(was.To)
		} else if !p.mayBeTrue(was.A) {
			b.End = goTo(was.Else)
		}
	case api.EndTry:
		if was.Ins.Op > api.TryMod || len(p.signals(was.Ins)) > 0 {
			break
		}
		b.End = try(b.End.Ins, was.To)
		if low, high := p.rangeOf(was.Ins.To); low == high && len(b.Ins) < 200 {
			b = block(goTo(was.To), append(b.Ins, number(was.Ins.To, low))...)
		}
	}
	return b
}

// withoutArgs returns a flow in which phis have lost the Args for blocks that were ahead and are not any more.
func withoutArgs(was, f api.Flow) api.Flow {
	for b := range f.Blocks {
		now := aheadOf(f, b)
		for i, x := range f.Blocks[b].Ins {
			if x.Op == api.InsPhi {
				f.Blocks[b].Ins[i].Args = nil
				for k, from := range aheadOf(was, b) {
					if slices.Contains(now, from) {
						f.Blocks[b].Ins[i].Args = append(f.Blocks[b].Ins[i].Args, x.Args[k])
					}
				}
			}
		}
	}
	return f
}

// plainNeeded returns the needed registers.
func plainNeeded(f api.Flow) []int {
	isNeeded := make([]bool, len(f.Regs))
	for changed := true; changed; {
		changed = false
		for _, b := range f.Blocks {
			reads, _ := readsOfEnd(b.End)
			for _, x := range b.Ins {
				if l, to := readsOf(x); to < 0 || isNeeded[to] {
					reads = append(reads, l...)
				}
			}
			for _, reg := range reads {
				changed = changed || !isNeeded[reg]
				isNeeded[reg] = true
			}
		}
	}
	var l []int
	for reg, is := range isNeeded {
		if is {
			l = append(l, reg)
		}
	}
	return l
}

func plainDead(f api.Flow) api.Flow {
	needed := plainNeeded(f)
	f = copiedFlow(f)
	for b := range f.Blocks {
		f.Blocks[b].Ins = slices.DeleteFunc(f.Blocks[b].Ins, func(x api.Ins) bool {
			_, to := readsOf(x)
			return to >= 0 && !slices.Contains(needed, to)
		})
	}
	return f
}

func plainTrim(f api.Flow) api.Flow {
	counts := counted(f, -1)
	g := copiedFlow(f)
	for b := range g.Blocks {
		if !counts[b] {
			g.Blocks[b] = block(ret(-1))
		}
	}
	g = withoutArgs(f, g)
	now := map[int]int{}
	for b := range g.Blocks {
		if counts[b] {
			now[b] = len(now)
		}
	}
	blocks := g.Blocks
	g.Blocks = nil
	for b, x := range blocks {
		if !counts[b] {
			continue
		}
		e := &x.End
		if len(waysOf(*e)) > 0 {
			e.To = now[e.To]
			if e.Kind == api.EndIf || e.Kind == api.EndNext {
				e.Else = now[e.Else]
			}
		}
		for i, w := range e.Whens {
			e.Whens[i].To = now[w.To]
		}
		if e.Others >= 0 {
			e.Others = now[e.Others]
		}
		g.Blocks = append(g.Blocks, x)
	}
	return g
}

func sizeOf(f api.Flow) int {
	n := 0
	for _, b := range f.Blocks {
		n += 1 + len(b.Ins)
	}
	return n
}
