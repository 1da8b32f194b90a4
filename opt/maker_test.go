package opt_test

import (
	"math/rand/v2"
	"slices"
	"testing"

	"argus/api"
	"argus/flow"
	"argus/sample"
	"argus/ssa"
)

// forms gives lists of flows that can be run, the one with the index i of which is in SSA form. It was changed by chance many
// times: there are numbers that are known, registers that are the same, blocks that are never entered, phis that stand in
// each other's way, ways back to the block 0, and blocks to which no way leads.
func forms(t *testing.T, seed uint64, n int, do func(r *rand.Rand, l []api.Flow, i int)) {
	t.Helper()
	for trial := range n {
		r := rand.New(rand.NewPCG(seed, uint64(trial)))
		l := someFlows(r, trial)
		i := r.IntN(len(l))
		f, e := ssa.Straight(l[i])
		if e != api.OK {
			t.Fatalf("K2: %d: %+v", e, l[i])
		}
		if f, _, e = ssa.Into(f); e != api.OK {
			t.Fatalf("K2: %d: %+v", e, l[i])
		}
		l = replaced(l, i, f)
		for range r.IntN(60) {
			g := replaced(l, i, changed(r, l[i]))
			if _, e := flow.CheckAll(g); e == api.OK && ssa.Check(g[i]) == api.OK {
				l = g
			}
		}
		do(r, l, i)
	}
}

// someFlows returns a list of flows without phis: each second one is a single flow with ways by chance between its blocks.
func someFlows(r *rand.Rand, trial int) []api.Flow {
	if trial%2 == 0 {
		m := sample.Graphs{Chance: r, More: trial % 5, Most: 4}
		return []api.Flow{m.Flow(m.Ways(1 + r.IntN(10)))}
	}
	m := sample.Flows{Chance: r, Slots: trial%6 < 3, Wild: trial%12 == 1}
	return m.List()
}

// replaced returns a list with another flow in the place of one.
func replaced(l []api.Flow, i int, f api.Flow) []api.Flow {
	l = slices.Clone(l)
	l[i] = f
	return l
}

// changer changes a flow by chance, so that it may not be valid.
type changer struct {
	*rand.Rand
	api.Flow
}

// changed returns a flow in which something is another one.
func changed(r *rand.Rand, f api.Flow) api.Flow {
	c := &changer{r, copiedFlow(f)}
	b := &c.Blocks[r.IntN(len(c.Blocks))]
	switch r.IntN(12) {
	case 0, 1:
		c.otherIns(b)
	case 2:
		c.otherReads(b)
	case 3, 4:
		c.insert(b, c.pure(c.fresh(api.RegWord)))
	case 5:
		c.insert(b, c.copied())
	case 6:
		from := c.anyReg()
		c.insert(b, move(c.fresh(c.Regs[from]), from))
	case 7:
		c.addPhi(b)
	case 8, 9:
		c.otherWay(b)
	case 10:
		c.otherEnd(b)
	case 11:
		b.End = change{func(reg int) int { return c.like(reg) }, stay}.end(b.End)
	}
	return c.fitted(f)
}

// fresh returns a register more.
func (c *changer) fresh(kind uint8) int {
	c.Regs = append(c.Regs, kind)
	return len(c.Regs) - 1
}

// anyReg returns a register that is a word or a reference, if there is one.
func (c *changer) anyReg() int {
	reg := c.IntN(len(c.Regs))
	for range 5 {
		if c.Regs[reg] == api.RegIter {
			reg = c.IntN(len(c.Regs))
		}
	}
	return reg
}

// like returns a register of the kind of one.
func (c *changer) like(reg int) int {
	if reg < 0 {
		return reg
	}
	other := reg
	for range 5 {
		if other = c.IntN(len(c.Regs)); c.Regs[other] == c.Regs[reg] {
			return other
		}
	}
	return reg
}

// word returns a register that is a word, most often.
func (c *changer) word() int {
	reg := 0
	for range 5 {
		if reg = c.IntN(len(c.Regs)); c.Regs[reg] == api.RegWord {
			return reg
		}
	}
	return reg
}

func (c *changer) number() int {
	return sample.Pick(c.Rand, 0, 0, 1, 1, 2, 3, -1, -7, 200, api.MaxInt, -api.MaxInt)
}

// pure returns an instruction that makes a word of words.
func (c *changer) pure(to int) api.Ins {
	op := sample.Pick(c.Rand, api.InsWord, api.InsWord, api.InsLt, api.InsLe, api.InsEq, api.InsAnd, api.InsOr, api.InsNot, api.InsMove)
	switch op {
	case api.InsWord:
		return number(to, c.number())
	case api.InsNot, api.InsMove:
		return api.Ins{Op: op, To: to, A: c.word()}
	}
	return ins(op, to, c.word(), c.word())
}

func phisOf(b *api.Block) int {
	n := 0
	for n < len(b.Ins) && b.Ins[n].Op == api.InsPhi {
		n++
	}
	return n
}

// otherIns lets an instruction that makes a word be another one.
func (c *changer) otherIns(b *api.Block) {
	for range 3 {
		if n := phisOf(b); n < len(b.Ins) {
			x := &b.Ins[n+c.IntN(len(b.Ins)-n)]
			if _, to := readsOf(*x); to >= 0 && c.Regs[to] == api.RegWord {
				*x = c.pure(to)
				return
			}
		}
	}
}

// otherReads lets an instruction, or a phi, read something else.
func (c *changer) otherReads(b *api.Block) {
	if len(b.Ins) == 0 {
		return
	}
	x := &b.Ins[c.IntN(len(b.Ins))]
	*x = change{func(reg int) int {
		if c.IntN(3) > 0 {
			return reg
		}
		return c.like(reg)
	}, stay}.ins(*x)
}

// insert puts an instruction into a block, or in the place of a way to it.
func (c *changer) insert(b *api.Block, x api.Ins) {
	n := phisOf(b)
	b.Ins = slices.Insert(b.Ins, n+c.IntN(len(b.Ins)-n+1), x)
}

// copied returns an instruction as there is one already, which writes another register.
func (c *changer) copied() api.Ins {
	for range 10 {
		b := &c.Blocks[c.IntN(len(c.Blocks))]
		if len(b.Ins) == 0 {
			continue
		}
		x := copied(b.Ins[c.IntN(len(b.Ins))])
		if _, to := readsOf(x); to >= 0 && x.Op != api.InsPhi {
			x.To = c.fresh(c.Regs[to])
			return x
		}
	}
	return number(c.fresh(api.RegWord), c.number())
}

// addPhi puts a phi into a block; it gets Args for the blocks ahead later.
func (c *changer) addPhi(b *api.Block) {
	x := phi(c.fresh(c.Regs[c.anyReg()]))
	b.Ins = slices.Insert(b.Ins, 0, x)
}

// otherWay lets an end lead elsewhere.
func (c *changer) otherWay(b *api.Block) {
	to, e := c.IntN(len(c.Blocks)), &b.End
	switch {
	case len(waysOf(*e)) == 0:
	case e.Kind == api.EndIf && c.IntN(2) == 0:
		e.Else = to
	case len(e.Whens) > 0 && c.IntN(2) == 0:
		e.Whens[c.IntN(len(e.Whens))].To = to
	case e.Kind == api.EndTry && c.IntN(2) == 0:
		e.Others = to
	default:
		e.To = to
	}
}

// otherEnd lets an end do something else.
func (c *changer) otherEnd(b *api.Block) {
	to := c.IntN(len(c.Blocks))
	switch e := &b.End; e.Kind {
	case api.EndGoto:
		*e = sample.Pick(c.Rand, branch(c.word(), e.To, to), branch(c.word(), to, e.To), try(c.try(c.fresh(api.RegWord)), e.To))
	case api.EndIf:
		*e = sample.Pick(c.Rand, goTo(e.To), goTo(e.Else), branch(c.word(), e.To, e.Else))
	case api.EndTry:
		if e.Ins.Op <= api.TryMod {
			e.Ins = c.try(e.Ins.To)
		}
		name := sample.Pick(c.Rand, "overflow", "zerodivide", "bounds", "x")
		isIt := func(w api.When) bool { return w.Name == name }
		if e.Whens = slices.DeleteFunc(e.Whens, isIt); len(e.Whens) < 7 {
			e.Whens = append(e.Whens, api.When{Name: name, To: to})
		}
	}
}

func (c *changer) try(to int) api.Ins {
	op := sample.Pick(c.Rand, api.TryAdd, api.TrySub, api.TryMul, api.TryDiv, api.TryMod)
	return ins(op, to, c.word(), c.word())
}

// fitted returns the flow, whose phis have Args for the blocks that are ahead now.
func (c *changer) fitted(was api.Flow) api.Flow {
	for b := range c.Blocks {
		old := aheadOf(was, b)
		for i := range phisOf(&c.Blocks[b]) {
			x := &c.Blocks[b].Ins[i]
			args := x.Args
			x.Args = nil
			for _, from := range aheadOf(c.Flow, b) {
				place := slices.Index(old, from)
				if place < 0 || place >= len(args) {
					x.Args = append(x.Args, c.like(x.To))
				} else {
					x.Args = append(x.Args, args[place])
				}
			}
		}
	}
	return c.Flow
}

// someFacts returns facts by chance, most of which will not hold by themselves: many will together.
func someFacts(r *rand.Rand, f api.Flow) []api.Fact {
	var l []api.Fact
	for b := range f.Blocks {
		if r.IntN(4) > 0 {
			l = append(l, never(b))
		}
	}
	share := r.IntN(3)
	for reg, kind := range f.Regs {
		for range r.IntN(3) {
			if kind == api.RegWord {
				l = append(l, someRange(r, f, reg))
			}
		}
		for of := range f.Regs {
			if kind != api.RegIter && f.Regs[of] == kind && of != reg && r.IntN(3) < share {
				l = append(l, alike(reg, of))
			}
		}
	}
	r.Shuffle(len(l), func(i, j int) { l[i], l[j] = l[j], l[i] })
	return l[:min(len(l), 1500)]
}

func someRange(r *rand.Rand, f api.Flow, reg int) api.Fact {
	const most = api.MaxInt
	b := f.Blocks[r.IntN(len(f.Blocks))]
	for _, x := range b.Ins {
		if x.Op == api.InsWord && r.IntN(3) == 0 {
			return sample.Pick(r, just(reg, x.N), within(reg, min(x.N, 0), max(x.N, 0)))
		}
	}
	return sample.Pick(r, within(reg, 0, 1), within(reg, 0, 1), just(reg, 0), just(reg, 1), within(reg, 0, most), within(reg, 1, most),
		within(reg, -most, -1), within(reg, -most, 0), within(reg, -1, 1), within(reg, 0, 5), within(reg, 0, 200), within(reg, -most, most), within(reg, 2, 3))
}

// otherFacts returns facts of which some are others.
func otherFacts(r *rand.Rand, f api.Flow, l []api.Fact) []api.Fact {
	l = slices.Clone(l)
	for range 1 + r.IntN(3) {
		switch k := r.IntN(10); {
		case len(l) == 0 || k == 0:
			all := someFacts(r, f)
			l = append(l, all[:min(len(all), 1)]...)
		case k < 4:
			i := r.IntN(len(l))
			l = slices.Delete(l, i, i+1)
		case k == 4:
			r.Shuffle(len(l), func(i, j int) { l[i], l[j] = l[j], l[i] })
		case k == 5:
			l = append(l, l[r.IntN(len(l))])
		case k == 6:
			x := &l[r.IntN(len(l))]
			*sample.Pick(r, &x.Reg, &x.Low, &x.High, &x.Of) = sample.Pick(r, r.IntN(8), -1, len(f.Regs), len(f.Blocks), api.MaxInt+1, -1<<63, 1<<62)
		case k == 7:
			l[r.IntN(len(l))].Kind = uint8(r.IntN(6))
		default:
			x := &l[r.IntN(len(l))]
			if x.Kind == api.FactRange {
				*x = sample.Pick(r, within(x.Reg, x.Low+1, x.High), within(x.Reg, x.Low, x.High-1), within(x.Reg, x.Low-1, x.High), within(x.Reg, x.Low, x.High+1))
			} else if x.Kind == api.FactSame {
				*x = alike(x.Of, x.Reg)
			}
		}
	}
	return l
}
