package opt_test

import (
	"slices"
	"testing"

	"argus/api"
	"argus/flow"
	"argus/opt"
)

// askFold asks what Fold makes of a flow.
func askFold(t *testing.T, what string, f, want api.Flow, l ...api.Fact) {
	t.Helper()
	g, e := opt.Fold(f, l)
	if e != api.OK || !same(g, want) {
		t.Errorf("%s: %d, %+v, not %+v", what, e, g, want)
	}
	if plain := plainFold(f, l); e == api.OK && !same(g, plain) {
		t.Errorf("%s: %+v, not %+v", what, g, plain)
	}
}

// L3 (1): what is read is replaced by the first register that it is the same as, and so on.
func TestFoldReads(t *testing.T) {
	f := with(proc("p", "rrwwwww",
		block(caught(call("c", 6, 1, 1, 5), "others", 2), move(1, 0), number(2, 7), number(3, 7), number(4, 7), move(5, 4), api.Ins{Op: api.InsSet, A: 1, B: 5, N: 2}, put(3)),
		block(branch(5, 2, 2)),
		block(ret(3), phi(6, 4, 5))), 1, 1)
	f.Regs = append(f.Regs, api.RegWord)
	f.Blocks[0].End.A = 7
	want := copiedFlow(f)
	want.Blocks[0] = block(caught(call("c", 7, 1, 0, 2), "others", 2), move(1, 0), number(2, 7), number(3, 7), number(4, 7), move(5, 3), api.Ins{Op: api.InsSet, A: 0, B: 2, N: 2}, put(3))
	want.Blocks[1].End.A = 2
	want.Blocks[2].Ins[0].Args = []int{3, 2}
	askFold(t, "L3", f, want, alike(1, 0), alike(4, 3), alike(5, 2), alike(4, 2), alike(5, 4))
	// All the way to the first one.
	want.Blocks[0].Ins[4], want.Blocks[0].Ins[6] = move(5, 2), put(2)
	want.Blocks[2] = block(ret(2), phi(6, 2, 2))
	askFold(t, "L3", f, want, alike(1, 0), alike(5, 4), alike(3, 2), alike(5, 2), alike(4, 3), alike(4, 2))
	askFold(t, "P12.5", f, f)
}

// L3 (2): instructions that make a word that is known.
func TestFoldInstructions(t *testing.T) {
	f := with(proc("p", "rwwwwwwwwwwwr",
		block(ret(11),
			number(1, 4), move(2, 1), ins(api.InsLt, 3, 1, 2), ins(api.InsLe, 4, 1, 2), ins(api.InsEq, 5, 1, 2), ins(api.InsAnd, 6, 3, 4),
			ins(api.InsOr, 7, 3, 4), api.Ins{Op: api.InsNot, To: 8, A: 3}, api.Ins{Op: api.InsTag, To: 9, A: 0}, api.Ins{Op: api.InsSize, To: 10, A: 0}, ins(api.InsLt, 11, 9, 10), move(12, 0))), 1, 1)
	l := []api.Fact{just(1, 4), just(2, 4), just(3, 0), just(4, 1), just(5, 1), just(6, 0), just(7, 1), just(8, 1), within(9, 0, 5), within(10, 0, 200)}
	want := copiedFlow(f)
	want.Blocks[0].Ins = []api.Ins{number(1, 4), number(2, 4), number(3, 0), number(4, 1), number(5, 1), number(6, 0), number(7, 1), number(8, 1), f.Blocks[0].Ins[8], f.Blocks[0].Ins[9], f.Blocks[0].Ins[10], move(12, 0)}
	askFold(t, "L3", f, want, l...)
	// The first range counts, and what is known of a register is known of it alone.
	want = copiedFlow(f)
	want.Blocks[0].Ins[2] = ins(api.InsLt, 3, 1, 1)
	want.Blocks[0].Ins[3] = ins(api.InsLe, 4, 1, 1)
	want.Blocks[0].Ins[4] = ins(api.InsEq, 5, 1, 1)
	askFold(t, "L3", f, want, just(1, 4), within(2, 4, 5), just(2, 4), alike(2, 1))
	h := words(0, 2, block(ret(-1), number(1, 4), ins(api.InsLt, 0, 1, 1)))
	askFold(t, "L3", h, words(0, 2, block(ret(-1), number(1, 4), number(0, 0))), just(1, 4), just(0, 0))
	// Where nothing is entered, any number may be known: an InsWord and an InsSize stay.
	g := with(proc("p", "rwwwww",
		block(branch(1, 1, 2), number(1, 0)),
		block(ret(-1), number(2, 5), api.Ins{Op: api.InsTag, To: 3, A: 0}, api.Ins{Op: api.InsSize, To: 4, A: 0}, api.Ins{Op: api.InsGet, To: 5, A: 0}),
		block(ret(-1))), 1, 0)
	want = copiedFlow(g)
	want.Blocks[0].End = goTo(2)
	want.Blocks[1].Ins[1] = number(3, 6)
	askFold(t, "L3", g, want, just(1, 0), never(1), just(2, 6), just(3, 6), just(4, 6), just(5, 6))
}

// L3 (3), (5): branches that go one way alone, and phis behind them.
func TestFoldBranches(t *testing.T) {
	branching := func(low, high int) (api.Flow, []api.Fact) {
		f := words(1, 6,
			block(branch(0, 1, 2), number(1, low), number(2, high)),
			block(goTo(3)),
			block(goTo(3)),
			block(branch(3, 4, 5), phi(3, 1, 2)),
			block(goTo(5)),
			block(ret(-1), phi(4, 0, 1), phi(5, 2, 3)))
		return f, []api.Fact{just(1, low), just(2, high), within(3, low, high)}
	}
	for _, x := range []struct {
		low, high, to int
	}{{1, 2, 4}, {-2, -1, 4}, {0, 0, 5}, {0, 1, -1}, {-1, 1, -1}} {
		f, l := branching(x.low, x.high)
		want := copiedFlow(f)
		if x.to > 0 {
			want.Blocks[3].End = goTo(x.to)
		}
		if x.to == 4 {
			// The block 4 is still ahead, and 3 is not any more.
			want.Blocks[5].Ins = []api.Ins{phi(4, 1), phi(5, 3)}
		}
		askFold(t, "L3", f, want, l...)
	}
	// An end is folded by what it read, not by what it reads now.
	f := words(1, 3, block(branch(2, 1, 2), number(1, 1), move(2, 1)), block(ret(-1)), block(ret(-1)))
	want := copiedFlow(f)
	want.Blocks[0].End.A = 1
	askFold(t, "L3", f, want, just(1, 1), alike(2, 1))
	// Both ways lead to one block.
	f.Blocks[0].End.Else = 1
	want = copiedFlow(f)
	want.Blocks[0].End = goTo(1)
	want.Blocks[0].Ins[1] = number(2, 1)
	askFold(t, "L3", f, want, just(1, 1), just(2, 1), never(2))
}

// L3 (4), (5): what is tried and may signal nothing.
func TestFoldTries(t *testing.T) {
	for _, x := range []struct {
		op        uint8
		a, b      span
		low, high int
		isFolded  bool
	}{
		{api.TryAdd, span{1, 2}, span{3, 3}, 4, 5, true}, {api.TryAdd, span{1, 1}, span{3, 3}, 4, 4, true}, {api.TryAdd, span{1, most}, span{0, 1}, 1, most, false},
		{api.TrySub, span{1, 1}, span{3, 3}, -2, -2, true}, {api.TryMul, span{-4, -4}, span{3, 3}, -12, -12, true}, {api.TryMul, span{-4, 5}, span{0, 0}, 0, 0, true},
		{api.TryDiv, span{-7, -7}, span{2, 2}, -4, -4, true}, {api.TryDiv, span{7, 7}, span{0, 2}, -most, most, false}, {api.TryDiv, span{7, 7}, span{-2, -2}, -most, most, true},
		{api.TryMod, span{7, 7}, span{1, 1}, 0, 0, true}, {api.TryMod, span{7, 7}, span{2, 2}, 0, 1, true}, {api.TryMod, span{7, 7}, span{0, 0}, 0, 0, false},
		{api.TryAdd, span{most, most}, span{1, 1}, 0, 0, false},
	} {
		f, l := ranged(x.a, x.b, ins(x.op, 7, 5, 6))
		f.Blocks[3].End.Whens = []api.When{{Name: "overflow", To: 5}, {Name: "x", To: 5}}
		f.Blocks[5].Ins = []api.Ins{phi(8, 6)}
		want := copiedFlow(f)
		if x.isFolded {
			want.Blocks[3].End.Whens, want.Blocks[3].End.Others = nil, -1
			want.Blocks[5].Ins[0].Args = nil
		}
		if x.isFolded && x.low == x.high {
			want.Blocks[3].End = goTo(4)
			want.Blocks[3].Ins = append(want.Blocks[3].Ins, number(7, x.low))
		}
		askFold(t, "L3", f, want, append(l, within(7, x.low, x.high))...)
	}
	// What others try may signal always, even where nothing is entered.
	f := with(proc("p", "rww",
		block(branch(1, 1, 2), number(1, 0)),
		block(caught(try(api.Ins{Op: api.TryRemh, To: 2, A: 0}, 2), "others", 2)),
		block(ret(-1))), 1, 0)
	want := copiedFlow(f)
	want.Blocks[0].End = goTo(2)
	askFold(t, "L3", f, want, just(1, 0), never(1), just(2, 7))
	// What is added there is folded by its ranges.
	f.Blocks[1].End = caught(try(ins(api.TryAdd, 2, 1, 1), 2), "others", 2)
	want.Blocks[1] = block(goTo(2), number(2, 7))
	askFold(t, "L3", f, want, just(1, 0), never(1), just(2, 7))
}

// L3 (4): a block that has 200 instructions gets none more.
func TestFoldFullBlocks(t *testing.T) {
	for _, n := range []int{198, 199} {
		// The phi is an instruction, too.
		l := append([]api.Ins{phi(3, 1)}, slices.Repeat([]api.Ins{put(0)}, n)...)
		f := words(1, 4,
			block(goTo(1), number(1, 2)),
			block(caught(try(ins(api.TryAdd, 2, 1, 1), 2), "others", 3), l...),
			block(ret(-1)),
			block(ret(-1)))
		want := copiedFlow(f)
		want.Blocks[1].End = try(f.Blocks[1].End.Ins, 2)
		if n == 198 {
			want.Blocks[1] = block(goTo(2), append(l[:len(l):len(l)], number(2, 4))...)
		}
		askFold(t, "L3", f, want, just(1, 2), just(2, 4), never(3))
	}
}

// P12.2: the end of a block leads to To in another way, too; that one goes, and what is written is written for certain then.
func TestFoldOfTwoWays(t *testing.T) {
	f := words(1, 4,
		block(caught(try(ins(api.TryAdd, 2, 1, 1), 1), "overflow", 1), number(1, 2)),
		block(ret(-1), phi(3, 1)))
	want := copiedFlow(f)
	want.Blocks[0] = block(goTo(1), number(1, 2), number(2, 4))
	askFold(t, "L3", f, want, just(1, 2), just(2, 4))
	want.Blocks[0] = block(try(ins(api.TryAdd, 2, 1, 1), 1), number(1, 2))
	askFold(t, "L3", f, want, just(1, 2))
}

// L4: what is needed.
func TestNeeded(t *testing.T) {
	f := with(proc("p", "rwwwwwwwwwwwwwr",
		block(goTo(1),
			number(1, 1), number(2, 2), number(3, 3), number(4, 4), number(5, 5), number(6, 6), number(7, 7), number(8, 8), number(9, 9),
			api.Ins{Op: api.InsSet, A: 0, B: 1}, put(2), api.Ins{Op: api.InsSpill, A: 3}, api.Ins{Op: api.InsMake, To: 14, Args: []int{8}}),
		block(caught(try(ins(api.TryAdd, 10, 4, 5), 2), "others", 2), phi(11, 6, 11), move(12, 7), move(13, 12)),
		block(branch(11, 1, 3)),
		block(ret(-1))), 1, 0)
	f.Slots = []uint8{api.RegWord}
	if l, e := opt.Needed(f); e != api.OK || !slices.Equal(l, []int{0, 1, 2, 3, 4, 5, 6, 11}) || !slices.Equal(l, plainNeeded(f)) {
		t.Errorf("L4: %v, %d, not %v", l, e, plainNeeded(f))
	}
	want := copiedFlow(f)
	want.Blocks[0].Ins = []api.Ins{number(1, 1), number(2, 2), number(3, 3), number(4, 4), number(5, 5), number(6, 6), f.Blocks[0].Ins[9], put(2), f.Blocks[0].Ins[11]}
	want.Blocks[1].Ins = []api.Ins{phi(11, 6, 11)}
	if g, e := opt.Dead(f); e != api.OK || !same(g, want) {
		t.Errorf("L4: %d, %+v, not %+v", e, g, want)
	}
	f = words(0, 2, block(ret(-1), number(1, 4), move(0, 1)))
	if g, e := opt.Dead(f); e != api.OK || !same(g, words(0, 2, block(ret(-1)))) {
		t.Errorf("L4: %d, %+v", e, g)
	}
	// Phis and instructions that only need each other are not needed.
	f = words(1, 4,
		block(goTo(1), number(1, 0)),
		block(branch(0, 1, 2), phi(2, 1, 3), api.Ins{Op: api.InsNot, To: 3, A: 2}),
		block(ret(-1)))
	want = words(1, 4, block(goTo(1)), block(branch(0, 1, 2)), block(ret(-1)))
	if g, e := opt.Dead(f); e != api.OK || !same(g, want) {
		t.Errorf("L4: %d, %+v", e, g)
	}
	if l, e := opt.Needed(f); e != api.OK || !slices.Equal(l, []int{0}) {
		t.Errorf("L4: %v, %d", l, e)
	}
}

// L4: what is needed for iterations, results and calls.
func TestNeededByEnds(t *testing.T) {
	f := with(proc("p", "wwwwwwi",
		block(open("i", 6, 1, 0), number(0, 1), number(1, 2), number(2, 3), number(3, 4), number(4, 5)),
		block(next(6, 5, 2, 3)),
		block(call("c", -1, 1, 1, 2)),
		block(ret(3), api.Ins{Op: api.InsClose, A: 6})), 0, 1)
	if l, e := opt.Needed(f); e != api.OK || !slices.Equal(l, []int{0, 1, 2, 3, 6}) {
		t.Errorf("L4: %v, %d", l, e)
	}
	f = iterator(proc("p", "ww", block(yield(0, 1), number(0, 1), number(1, 2)), block(ret(-1))), 0, 1)
	if l, e := opt.Needed(f); e != api.OK || !slices.Equal(l, []int{0}) {
		t.Errorf("L4: %v, %d", l, e)
	}
}

// L5: blocks to which no way leads go, and Args of phis for them.
func TestTrim(t *testing.T) {
	f := words(1, 5,
		block(branch(0, 6, 2)),
		block(goTo(2), number(1, 7)),
		block(caught(call("c", -1, 4), "s", 6, "others", 5), phi(2, 0, 1, 0)),
		block(goTo(1)),
		block(goTo(2)),
		block(branch(0, 5, 2), phi(3, 0, 3)),
		block(ret(-1)))
	f.Blocks[5].End = branch(0, 5, 6)
	f.Blocks[2].Ins[0].Args = []int{0, 1, 0}
	want := words(1, 5,
		block(branch(0, 4, 1)),
		block(caught(call("c", -1, 2), "s", 4, "others", 3), phi(2, 0, 0)),
		block(goTo(1)),
		block(branch(0, 3, 4), phi(3, 0, 3)),
		block(ret(-1)))
	if g, e := opt.Trim(f); e != api.OK || !same(g, want) {
		t.Errorf("L5: %d, %+v, not %+v", e, g, want)
	}
	if g, e := opt.Trim(want); e != api.OK || !same(g, want) {
		t.Errorf("P12.5: %d, %+v", e, g)
	}
}

// L6: what comes of some flows.
func TestOpt(t *testing.T) {
	for _, x := range []struct {
		what    string
		f, want api.Flow
	}{
		{"nothing to do", words(1, 1, block(ret(-1), put(0))), words(1, 1, block(ret(-1), put(0)))},
		{"sums", words(0, 5,
			block(try(ins(api.TryAdd, 2, 0, 1), 1), number(0, 1), number(1, 2)),
			block(try(ins(api.TryMul, 3, 2, 2), 2)),
			block(ret(-1), put(3))), words(0, 5, block(ret(-1), number(3, 9), put(3)))},
		{"a sum of what is read elsewhere", words(0, 3,
			block(try(ins(api.TryAdd, 2, 0, 1), 1), number(0, 1), number(1, 2), put(0), put(1)),
			block(ret(-1), put(2))), words(0, 3, block(ret(-1), number(0, 1), number(1, 2), put(0), put(1), number(2, 3), put(2)))},
		{"what would be longer", words(1, 5,
			block(branch(0, 1, 2), number(1, 1), number(2, 2), put(1), put(2)),
			block(caught(try(ins(api.TryAdd, 3, 1, 2), 3), "others", 2)),
			block(goTo(3)),
			block(ret(-1), phi(4, 3, 1), put(4))), words(1, 5,
			block(branch(0, 1, 2), number(1, 1), number(2, 2), put(1), put(2)),
			block(try(ins(api.TryAdd, 3, 1, 2), 3)),
			block(goTo(3)),
			block(ret(-1), phi(4, 3, 1), put(4)))},
		{"a loop that is left at once", words(1, 5,
			block(goTo(1), number(1, 0), number(2, 1)),
			block(branch(3, 2, 3), phi(3, 1, 4)),
			block(try(ins(api.TryAdd, 4, 3, 2), 1)),
			block(ret(-1), put(3))), words(1, 5, block(ret(-1), number(1, 0), put(1)))},
		{"a phi of what does not stand ahead", words(1, 3,
			block(try(ins(api.TryAdd, 1, 0, 0), 1)),
			block(branch(0, 2, 3), phi(2, 1, 1), put(2)),
			block(goTo(1)),
			block(ret(-1))), words(1, 3,
			block(try(ins(api.TryAdd, 1, 0, 0), 1)),
			block(branch(0, 2, 3), put(1)),
			block(goTo(1)),
			block(ret(-1)))},
		{"a loop that stays", words(1, 2,
			block(branch(0, 0, 1), number(1, 3), put(1)),
			block(goTo(0))), words(1, 2,
			block(branch(0, 0, 1), number(1, 3), put(1)),
			block(goTo(0)))},
		{"an endless loop", words(1, 2,
			block(goTo(1)),
			block(goTo(2)),
			block(goTo(1), put(0))), words(1, 2, block(goTo(1)), block(goTo(1), put(0)))},
	} {
		if g, e := opt.Opt(x.f); e != api.OK || !same(g, x.want) {
			t.Errorf("L6: %s: %d, %+v, not %+v", x.what, e, g, x.want)
		}
	}
}

// L6: blocks are joined as long as there is room, and phis behind them keep their Args.
func TestOptJoins(t *testing.T) {
	f := words(2, 4,
		block(branch(0, 3, 1)),
		block(goTo(2), put(0)),
		block(ret(2), phi(2, 0, 1)),
		block(goTo(4), put(1)),
		block(goTo(2), put(0), put(1)))
	f.Result = api.RegWord
	want := words(2, 4,
		block(branch(0, 3, 1)),
		block(goTo(2), put(0)),
		block(ret(2), phi(2, 0, 1)),
		block(goTo(2), put(1), put(0), put(1)))
	want.Result = api.RegWord
	if g, e := opt.Opt(f); e != api.OK || !same(g, want) {
		t.Errorf("L6: %d, %+v, not %+v", e, g, want)
	}
	// The block that is joined comes first now, so the Args change places.
	f = words(2, 4,
		block(branch(0, 1, 2)),
		block(goTo(4), put(0)),
		block(goTo(3)),
		block(ret(2), phi(2, 0, 1)),
		block(goTo(3), put(1)))
	f.Result = api.RegWord
	f.Blocks[3].Ins[0].Args = []int{0, 1} // for the blocks 2 and 4
	want = words(2, 4,
		block(branch(0, 1, 2)),
		block(goTo(3), put(0), put(1)),
		block(goTo(3)),
		block(ret(2), phi(2, 1, 0)))
	want.Result = api.RegWord
	if g, e := opt.Opt(f); e != api.OK || !same(g, want) {
		t.Errorf("L6: %d, %+v, not %+v", e, g, want)
	}
	for _, n := range []int{200, 201} {
		f = words(1, 1, block(goTo(1), slices.Repeat([]api.Ins{put(0)}, n-100)...), block(ret(-1), slices.Repeat([]api.Ins{put(0)}, 100)...))
		g, e := opt.Opt(f)
		if e != api.OK || len(g.Blocks) != n-199 || sizeOf(g) != n+len(g.Blocks) {
			t.Errorf("L6: %d: %d, %+v", n, e, g)
		}
	}
}

// The errors, in their order.
func TestErrors(t *testing.T) {
	f := five()
	twice := five()
	twice.Blocks[2].Ins = []api.Ins{number(0, 1)}
	wrong := []api.Fact{just(0, 3)}
	tooMany := slices.Repeat([]api.Fact{just(0, 2)}, 3001)
	for _, x := range []struct {
		f     api.Flow
		l     []api.Fact
		wants [3]api.Errno // of CheckFacts, Range and Fold
	}{
		{f, nil, [3]api.Errno{}},
		{f, wrong, [3]api.Errno{0, api.ErrFact, api.ErrFact}},
		{f, tooMany, [3]api.Errno{api.ErrArg, api.ErrFact, api.ErrFact}},
		{f, tooMany[:3000], [3]api.Errno{}},
		{f, append(tooMany[:2999:2999], wrong...), [3]api.Errno{0, api.ErrFact, api.ErrFact}},
		{twice, tooMany, [3]api.Errno{api.ErrSsa, api.ErrSsa, api.ErrSsa}},
		{api.Flow{}, tooMany, [3]api.Errno{api.ErrFlow, api.ErrFlow, api.ErrFlow}},
	} {
		is, e := opt.CheckFacts(x.f, x.l)
		if wants := e == api.OK && x.wants[1] == api.OK; e != x.wants[0] || is != wants {
			t.Errorf("L1: %d, %v, not %d", e, is, x.wants[0])
		}
		if low, high, e := opt.Range(x.f, x.l, 1); e != x.wants[1] || e != api.OK && (low != 0 || high != 0) {
			t.Errorf("L2: %d, not %d", e, x.wants[1])
		}
		if g, e := opt.Fold(x.f, x.l); e != x.wants[2] || e != api.OK && !same(g, api.Flow{}) {
			t.Errorf("L3: %d, not %d", e, x.wants[2])
		}
	}
}

// L2: registers that are no words; the error of the facts comes first.
func TestRangeOfNoWord(t *testing.T) {
	f := with(proc("p", "wri", block(open("i", 2, 1)), block(ret(-1))), 2, 0)
	for r, want := range map[int]api.Errno{0: api.OK, 1: api.ErrArg, 2: api.ErrArg, 3: api.ErrArg, -1: api.ErrArg, 1 << 62: api.ErrArg, -1 << 63: api.ErrArg} {
		low, high, e := opt.Range(f, nil, r)
		if e != want || e == api.OK && (low != -most || high != most) || e != api.OK && (low != 0 || high != 0) {
			t.Errorf("L2: %d: %d, %d, %d", r, low, high, e)
		}
		if _, _, e := opt.Range(f, []api.Fact{just(0, 0)}, r); e != api.ErrFact {
			t.Errorf("L2: %d: %d", r, e)
		}
	}
}

// L1, L4 to L6: flows that are not valid, and flows that are not in SSA form.
func TestErrorsOfFlows(t *testing.T) {
	unread, unsaid, twice := five(), five(), five()
	unread.Blocks[0].Ins[0].To = 5
	unread.Blocks[3].Ins = nil
	unsaid.Blocks[0].End.To = 9
	twice.Blocks[3].Ins[0].To, twice.Blocks[3].End.A = 4, 4
	for want, f := range map[api.Errno]api.Flow{api.ErrRead: unread, api.ErrFlow: unsaid, api.ErrSsa: twice} {
		if e := flow.Check(f); e != want && want != api.ErrSsa {
			t.Errorf("%d, not %d", e, want)
		}
		if l, e := opt.Facts(f); e != want || len(l) > 0 {
			t.Errorf("L1: %d, not %d", e, want)
		}
		if l, e := opt.Needed(f); e != want || len(l) > 0 {
			t.Errorf("L4: %d, not %d", e, want)
		}
		for _, pass := range []func(api.Flow) (api.Flow, api.Errno){opt.Dead, opt.Trim, opt.Opt} {
			if g, e := pass(f); e != want || !same(g, api.Flow{}) {
				t.Errorf("L4 to L6: %d, not %d", e, want)
			}
		}
	}
}
