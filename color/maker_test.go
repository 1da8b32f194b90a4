package color_test

import (
	"math/rand/v2"
	"slices"
	"testing"

	"argus/api"
	"argus/flow"
	"argus/sample"
	"argus/ssa"
)

// someFlows returns a list of flows without phis and slots: each second one is a single flow with ways by chance between its
// blocks.
func someFlows(r *rand.Rand, trial int) []api.Flow {
	if trial%2 == 0 {
		m := sample.Graphs{Chance: r, More: trial % 7, Most: 4}
		return []api.Flow{m.Flow(m.Ways(1 + r.IntN(9)))}
	}
	m := sample.Flows{Chance: r, Wild: trial%12 == 1}
	return m.List()
}

// replaced returns a list with another flow in the place of one.
func replaced(l []api.Flow, i int, f api.Flow) []api.Flow {
	l = slices.Clone(l)
	l[i] = f
	return l
}

// forms gives flows in SSA form that were changed by chance many times: phis and others read what they did not read, ends lead
// elsewhere, so that there are flows that are not straight, blocks to which no way leads, and registers that stand nowhere.
func forms(t *testing.T, seed uint64, n int, do func(r *rand.Rand, f api.Flow)) {
	t.Helper()
	for trial := range n {
		r := rand.New(rand.NewPCG(seed, uint64(trial)))
		l := someFlows(r, trial)
		i := r.IntN(len(l))
		f := must[api.Flow](t, l[i])(ssa.Straight(l[i]))
		f, _, e := ssa.Into(f)
		if e != api.OK {
			t.Fatalf("K2: %d: %+v", e, l[i])
		}
		for range r.IntN(40) {
			if g := changed(r, f); ssa.Check(g) == api.OK {
				f = g
			}
		}
		do(r, f)
	}
}

// changed returns a flow in which something is another one, so that it may not be valid.
func changed(r *rand.Rand, f api.Flow) api.Flow {
	f = copiedFlow(f)
	b := &f.Blocks[r.IntN(len(f.Blocks))]
	n := phisOf(*b)
	stay := func(reg int) int { return reg }
	other := func(reg int) int {
		if to := r.IntN(len(f.Regs)); r.IntN(2) == 0 && f.Regs[to] == f.Regs[reg] {
			return to
		}
		return reg
	}
	switch k := r.IntN(10); {
	case k < 2 && n > 0:
		x := &b.Ins[r.IntN(n)]
		each(x, other, stay)
	case k < 3 && n > 0:
		x, y := &b.Ins[r.IntN(n)], &b.Ins[r.IntN(n)]
		if i := r.IntN(len(x.Args) + 1); i < len(x.Args) {
			x.Args[i], y.Args[i] = y.Args[i], x.Args[i]
		}
	case k < 5 && n < len(b.Ins):
		each(&b.Ins[n+r.IntN(len(b.Ins)-n)], other, stay)
	case k < 6:
		eachOfEnd(&b.End, other, stay)
	case k < 7:
		otherWay(r, f, &b.End)
	case k < 8 && len(b.Ins) > n:
		i := n + r.IntN(len(b.Ins)-n)
		b.Ins = slices.Delete(b.Ins, i, i+1)
	case k < 9:
		insert(r, &f, b)
	default:
		f.Regs = append(f.Regs, uint8(1+r.IntN(3)))
	}
	return f
}

// otherWay lets an end lead elsewhere, or twice to one block.
func otherWay(r *rand.Rand, f api.Flow, e *api.End) {
	to := r.IntN(len(f.Blocks))
	if r.IntN(2) == 0 {
		to = e.To
	}
	switch {
	case len(waysOf(*e)) == 0:
	case len(e.Whens) > 0:
		e.Whens[r.IntN(len(e.Whens))].To = to
	case e.Others >= 0:
		e.Others = to
	case e.Kind == api.EndIf || e.Kind == api.EndNext:
		e.Else = to
	case e.Kind == api.EndTry || e.Kind == api.EndCall:
		e.Others = to
	default:
		e.To = to
	}
}

// insert puts an instruction that writes one more register behind the phis of a block.
func insert(r *rand.Rand, f *api.Flow, b *api.Block) {
	from := r.IntN(len(f.Regs))
	kind := f.Regs[from]
	x := move(len(f.Regs), from)
	if kind == api.RegIter || r.IntN(2) == 0 {
		kind = api.RegWord
		x = number(len(f.Regs), r.IntN(5))
	}
	f.Regs = append(f.Regs, kind)
	n := phisOf(*b)
	b.Ins = slices.Insert(b.Ins, n+r.IntN(len(b.Ins)-n+1), x)
}

// crowded gives flows without phis and slots that can be run, the one with the index i of which was given more registers: some
// words and references are written at its beginning, and stand all over it from then on.
func crowded(t *testing.T, seed uint64, n, most int, do func(r *rand.Rand, l []api.Flow, i int)) {
	t.Helper()
	for trial := range n {
		r := rand.New(rand.NewPCG(seed, uint64(trial)))
		l := someFlows(r, trial)
		i := r.IntN(len(l))
		c := &crowder{Rand: r, Flow: copiedFlow(l[i])}
		c.begin(1+r.IntN(most), 1+r.IntN(most))
		for range r.IntN(3 * most) {
			c.use()
		}
		l = replaced(l, i, c.Flow)
		if at, e := flow.CheckAll(l); e != api.OK {
			t.Fatalf("the maker is wrong: %d, %d: %+v", at, e, l)
		}
		do(r, l, i)
	}
}

// crowder gives a flow more registers.
type crowder struct {
	*rand.Rand
	api.Flow
	words, refs []int // those that there are besides, which are arrays of words
	begun       int   // how many instructions of the block 0 write them
}

func (c *crowder) begin(words, refs int) {
	var l []api.Ins
	for range words {
		c.words = append(c.words, len(c.Regs))
		l = append(l, number(len(c.Regs), c.IntN(5)-1))
		c.Regs = append(c.Regs, api.RegWord)
	}
	for range refs {
		c.refs = append(c.refs, len(c.Regs))
		l = append(l, api.Ins{Op: api.InsNew, To: len(c.Regs)})
		c.Regs = append(c.Regs, api.RegRef)
	}
	c.Shuffle(len(l), func(i, j int) { l[i], l[j] = l[j], l[i] })
	c.begun = len(l)
	c.Blocks[0].Ins = slices.Concat(l, c.Blocks[0].Ins)
}

func (c *crowder) word() int { return sample.Pick(c.Rand, c.words...) }

func (c *crowder) ref() int { return sample.Pick(c.Rand, c.refs...) }

// use puts something into a block that uses the registers.
func (c *crowder) use() {
	block := c.IntN(len(c.Blocks))
	b := &c.Blocks[block]
	if c.IntN(4) == 0 && b.End.Kind == api.EndGoto {
		c.useAtEnd(b)
		return
	}
	first := 0
	if block == 0 {
		first = c.begun
	}
	if len(b.Ins) < 40 {
		b.Ins = slices.Insert(b.Ins, first+c.IntN(len(b.Ins)-first+1), c.instruction())
	}
}

func (c *crowder) instruction() api.Ins {
	fields := api.Ins{Op: api.InsMake, To: len(c.Regs)}
	x := sample.Pick(c.Rand,
		put(c.word()), put(c.word()), put(c.word()), move(c.word(), c.word()), number(c.word(), c.IntN(5)), ins(api.InsLt, c.word(), c.word(), c.word()),
		ins(api.InsAnd, c.word(), c.word(), c.word()), move(c.ref(), c.ref()), api.Ins{Op: api.InsNew, To: c.ref()},
		api.Ins{Op: api.InsSize, To: c.word(), A: c.ref()}, api.Ins{Op: api.InsSize, To: c.word(), A: c.ref()}, ins(api.InsEq, c.word(), c.ref(), c.ref()), fields)
	if x.Op == api.InsMake {
		c.Regs = append(c.Regs, api.RegRef)
		from := sample.Pick(c.Rand, c.words, c.refs, slices.Concat(c.words, c.refs))
		for range 1 + c.IntN(6) {
			x.Args = append(x.Args, sample.Pick(c.Rand, from...))
		}
	}
	return x
}

// useAtEnd lets an end that does nothing try something.
func (c *crowder) useAtEnd(b *api.Block) {
	x := sample.Pick(c.Rand,
		ins(api.TryAdd, c.word(), c.word(), c.word()), ins(api.TryDiv, c.word(), c.word(), c.word()),
		api.Ins{Op: api.TryAddh, A: c.ref(), B: c.word()}, api.Ins{Op: api.TryAddh, A: c.ref(), B: c.word()}, api.Ins{Op: api.TryRemh, To: c.word(), A: c.ref()},
		ins(api.TryFetch, c.word(), c.ref(), c.word()), api.Ins{Op: api.TryStore, A: c.ref(), B: c.word(), Args: []int{c.word()}})
	to := c.IntN(len(c.Blocks))
	if c.IntN(3) == 0 {
		to = b.End.To
	}
	// Elsewhere something may be read that is not written for certain: it is asked at the end.
	was := b.End
	b.End = caught(try(x, was.To), "others", to)
	if flow.Check(c.Flow) != api.OK {
		b.End = caught(try(x, was.To), "others", was.To)
	}
}

// turning returns a procedure with a loop that runs as often as its argument says: some words are moved and put in it, and
// its last end writes one of them, and leads to its head alone.
func turning(r *rand.Rand) api.Flow {
	const first = 4
	n := 2 + r.IntN(3)
	f := words(1, first+n,
		block(goTo(1), number(1, -1), number(2, 1), number(3, 0)),
		block(branch(0, 2, 4)),
		block(try(ins(api.TryAdd, 0, 0, 1), 3)),
		block(api.End{}),
		block(ret(-1)))
	reg := func() int { return 3 + r.IntN(n+1) }
	for i := range n {
		f.Blocks[0].Ins = append(f.Blocks[0].Ins, number(first+i, i))
		f.Blocks[4].Ins = append(f.Blocks[4].Ins, put(first+i))
	}
	for range r.IntN(4) {
		f.Blocks[2].Ins = append(f.Blocks[2].Ins, sample.Pick(r, put(reg()), move(reg(), reg())))
	}
	for range 2 + r.IntN(2*n) {
		f.Blocks[3].Ins = append(f.Blocks[3].Ins, sample.Pick(r, move(reg(), reg()), move(reg(), reg()), put(reg())))
	}
	op := sample.Pick(r, api.TryAdd, api.TrySub)
	f.Blocks[3].End = sample.Pick(r, try(ins(op, reg(), reg(), reg()), 1), try(ins(op, reg(), reg(), 2), 1), try(ins(op, reg(), 1, 2), 1), branch(reg(), 1, 1), goTo(1))
	return f
}

// rolling returns a procedure that writes words in a row, each of which is read for some time, and then not any more. Blocks are
// left to the next ones, sometimes over a way round.
func rolling(r *rand.Rand) api.Flow {
	regs, window := 40+r.IntN(40), 14+r.IntN(8)
	f := words(1, regs)
	l := []api.Ins{}
	reg := func(time int) int { return 1 + (time+regs)%(regs-1) }
	for time := range window {
		l = append(l, number(reg(time), time))
	}
	recent := func(time int) int { return reg(time - 1 - r.IntN(window)) }
	leave := func(e api.End) {
		f.Blocks = append(f.Blocks, block(e, l...))
		l = nil
	}
	ends := sample.Pick(r, 12, 40, 200)
	for time := window; time < window+40+r.IntN(60); time++ {
		n := len(f.Blocks)
		switch r.IntN(ends) {
		case 3:
			leave(goTo(n + 1))
		case 4:
			leave(branch(recent(time), n+1, n+2))
			l = append(l, number(recent(time), time), put(recent(time)))
			leave(goTo(n + 2))
		case 5:
			leave(caught(try(ins(api.TryMul, reg(time), recent(time), recent(time)), n+1), "overflow", n+1))
			l = append(l, number(reg(time), time))
		case 6:
			leave(caught(try(ins(api.TryAdd, recent(time), recent(time), 0), n+2), "overflow", n+1))
			leave(goTo(n + 2))
		}
		if r.IntN(3) == 0 {
			l = append(l, put(recent(time)))
		}
		l = append(l, sample.Pick(r, number(reg(time), time), ins(api.InsLt, reg(time), recent(time), recent(time)), move(reg(time), recent(time))))
	}
	leave(ret(-1))
	return f
}
