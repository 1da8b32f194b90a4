package opt_test

import (
	"slices"
	"testing"

	"argus/api"
	"argus/flow"
	"argus/opt"
	"argus/ssa"
)

// crowded returns a flow with as many registers and blocks as there may be. All registers are the same word, and all blocks
// from the one with the number 7 on are never entered.
func crowded() api.Flow {
	f := words(0, api.MaxRegs)
	for b := range 6 {
		f.Blocks = append(f.Blocks, block(goTo(b+1)))
		for i := range api.MaxIns {
			f.Blocks[b].Ins = append(f.Blocks[b].Ins, number(b*api.MaxIns+i, 5))
		}
	}
	f.Blocks = append(f.Blocks, block(branch(7, 6, 7)))
	for len(f.Blocks) < api.MaxBlocks-1 {
		f.Blocks = append(f.Blocks, block(goTo(len(f.Blocks)+1)))
	}
	f.Blocks = append(f.Blocks, block(ret(-1)))
	return f
}

// L1: there are more facts than a list may have: those that are asked for, and on which others rest, are in it.
func TestMostFacts(t *testing.T) {
	t.Parallel()
	f := crowded()
	l, e := opt.Facts(f)
	if e != api.OK || len(l) != 3000 {
		t.Errorf("L1: %d facts, %d", len(l), e)
	}
	if is, e := opt.CheckFacts(f, l); e != api.OK || !is {
		t.Errorf("L1: %v, %d", is, e)
	}
	for reg := range f.Regs {
		if !slices.Contains(l, just(reg, 5)) {
			t.Fatalf("L1: no range of %d", reg)
		}
	}
	if is, e := opt.CheckFacts(f, append(l, l[0])); e != api.ErrArg || is {
		t.Errorf("L1: %v, %d", is, e)
	}
	g, e := opt.Fold(f, l)
	if g, _ = opt.Trim(g); e != api.OK || len(g.Blocks) != 7 {
		t.Errorf("L3: %d, %d blocks", e, len(g.Blocks))
	}
	if _, e := opt.Fold(f, append(l, l[0])); e != api.ErrFact {
		t.Errorf("L3: %d", e)
	}
	if g, e := opt.Opt(f); e != api.OK || !same(g.Blocks, []api.Block{block(goTo(0))}) && !same(g.Blocks, []api.Block{block(goTo(1)), block(goTo(1))}) {
		t.Errorf("L6: %d, %+v", e, g.Blocks)
	}
}

// rowOf returns a flow with as many registers as there may be, and most of whose blocks are never entered: instructions stand in
// a row of blocks, the last one of which goes back to the first one.
func rowOf(number func(i int) int, x func(b, to, before, last int) api.Ins) api.Flow {
	const row = 6
	f := words(0, api.MaxRegs, block(branch(0, 8, 1), api.Ins{Op: api.InsWord, To: 0, N: 1}, api.Ins{Op: api.InsNew, To: 2}, api.Ins{Op: api.InsSize, To: 1, A: 2}))
	f.Regs[2] = api.RegRef
	for len(f.Blocks) < 8 {
		f.Blocks = append(f.Blocks, block(goTo(api.MaxBlocks-1)))
	}
	for b := range row {
		f.Blocks = append(f.Blocks, block(goTo(9+b)))
		for i := range 199 {
			f.Blocks[8+b].Ins = append(f.Blocks[8+b].Ins, x(b, number(b*199+i), number((b-1)*199+i), number((row-1)*199+i)))
		}
	}
	f.Blocks[8+row-1].End = branch(1, 8, 8+row)
	for len(f.Blocks) < api.MaxBlocks {
		f.Blocks = append(f.Blocks, block(ret(-1)))
	}
	return f
}

// What follows from what is left out is left out as well. Of moves, whatever their numbers are, what is written first stays, and
// the rest does not count; of phis in a circle each follows from the last one.
func TestFactsThatDependOnOthers(t *testing.T) {
	t.Parallel()
	up, down := func(i int) int { return 3 + i }, func(i int) int { return api.MaxRegs - 1 - i }
	moves := func(b, to, before, last int) api.Ins {
		if b == 0 {
			return move(to, 0)
		}
		return move(to, before)
	}
	phis := func(b, to, before, last int) api.Ins {
		if b == 0 {
			return phi(to, 0, last)
		}
		return phi(to, before)
	}
	for i, x := range []struct {
		f    api.Flow
		want int
	}{{rowOf(up, moves), 3000}, {rowOf(down, moves), 3000}, {rowOf(up, phis), 0}, {rowOf(down, phis), 0}} {
		l, e := opt.Facts(x.f)
		if is, err := opt.CheckFacts(x.f, l); e != api.OK || err != api.OK || !is || len(l) > 3000 || len(l) < x.want {
			t.Errorf("L1: %d: %d, %v, %d: %d facts", i, e, is, err, len(l))
		}
		isSame := func(x api.Fact) bool { return x.Kind == api.FactSame }
		if x.want == 0 && slices.ContainsFunc(l, isSame) {
			t.Errorf("L1: %d: some are left", i)
		}
	}
}

// large returns the largest flows of several shapes, in SSA form.
func large(t *testing.T) map[string]api.Flow {
	t.Helper()
	const n = 1190
	l := map[string]api.Flow{"crowded": crowded()}
	for name, to := range map[string]func(b int) []int{
		"a row":          func(b int) []int { return []int{b + 1} },
		"loops in loops": func(b int) []int { return []int{b + 1, n - b} },
		"a ladder":       func(b int) []int { return []int{b + 2, b + 1 + b%2*2} },
		"far ways":       func(b int) []int { return []int{b + 1, b * 7 % n, b*11%n + 1, b + 300} },
		"a tree":         func(b int) []int { return []int{2*b + 1, 2*b + 2} },
	} {
		ways := make([][]int, n)
		for b := range ways {
			for _, x := range to(b) {
				if 0 < x && x < n && !slices.Contains(ways[b], x) {
					ways[b] = append(ways[b], x)
				}
			}
		}
		f := words(1, 2)
		for b, to := range ways {
			x := block(ret(-1))
			if len(to) > 0 {
				x.End = call("q", -1, to[0])
			}
			for i, other := range to[min(1, len(to)):] {
				x.End = caught(x.End, string(rune('a'+i)), other)
			}
			if b%200 == 0 {
				x.Ins = append(x.Ins, number(1, b))
			}
			x.Ins = append(x.Ins, slices.Repeat([]api.Ins{put(1)}, 100)...)
			f.Blocks = append(f.Blocks, x)
		}
		g, _, e := ssa.Into(f)
		if e != api.OK {
			t.Fatalf("K2: %s: %d", name, e)
		}
		l[name] = g
	}
	return l
}

// The largest flows: all functions come to an end, with what holds.
func TestLargestFlows(t *testing.T) {
	t.Parallel()
	for name, f := range large(t) {
		t.Run(name, func(t *testing.T) {
			t.Parallel()
			l := must[[]api.Fact](t, f)(opt.Facts(f))
			if is := must[bool](t, f)(opt.CheckFacts(f, l)); !is {
				t.Errorf("L1: %v", l)
			}
			for what, g := range map[string]api.Flow{
				"Fold": must[api.Flow](t, f)(opt.Fold(f, l)), "Dead": must[api.Flow](t, f)(opt.Dead(f)),
				"Trim": must[api.Flow](t, f)(opt.Trim(f)), "Opt": must[api.Flow](t, f)(opt.Opt(f)),
			} {
				if e := ssa.Check(g); e != api.OK || what != "Fold" && sizeOf(g) > sizeOf(f) {
					t.Errorf("P12.2: %s: %d", what, e)
				}
			}
			if l := must[[]int](t, f)(opt.Needed(f)); !slices.Equal(l, plainNeeded(f)) {
				t.Errorf("L4: %v", l)
			}
		})
	}
}

// A phi with as many Args as there may be, whose range is asked for as often as a list can.
func TestWidestPhi(t *testing.T) {
	t.Parallel()
	f := words(1, 3, block(goTo(1), number(1, 3)))
	for b := 1; b < api.MaxBlocks-1; b++ {
		f.Blocks = append(f.Blocks, block(branch(0, b+1, api.MaxBlocks-1)))
	}
	f.Blocks = append(f.Blocks, block(ret(-1), phi(2, slices.Repeat([]int{1}, api.MaxBlocks-2)...)))
	if e := flow.Check(f); e != api.OK {
		t.Fatal(e)
	}
	l := append(slices.Repeat([]api.Fact{just(2, 3)}, 1500), slices.Repeat([]api.Fact{alike(2, 1)}, 1499)...)
	ask(t, "L1", f, true, append(l, just(1, 3))...)
	ask(t, "L1", f, false, append(l, just(1, 4))...)
}

// Ranges that grow: a row of phis, each of which takes what the next one has; all of them come to an end.
func TestRangesThatGrow(t *testing.T) {
	t.Parallel()
	const n = 199
	f := words(1, n+4,
		block(goTo(1), number(n+1, 0), number(n+2, 1)),
		block(try(ins(api.TryAdd, n+3, 1, n+2), 2)),
		block(branch(0, 1, 3)),
		block(ret(-1), put(n)))
	for i := range n {
		f.Blocks[1].Ins = append(f.Blocks[1].Ins, phi(i+1, n+1, i+2))
	}
	f.Blocks[1].Ins[n-1].Args[1] = n + 3
	l := must[[]api.Fact](t, f)(opt.Facts(f))
	for i := range n {
		if !slices.Contains(l, within(i+1, 0, most)) {
			t.Fatalf("L1: %d of %v", i+1, l)
		}
	}
	if is := must[bool](t, f)(opt.CheckFacts(f, l)); !is {
		t.Errorf("L1: %v", l)
	}
}
