package ssa_test

import (
	"slices"
	"testing"

	"argus/api"
	"argus/flow"
	"argus/ssa"
)

// loops returns a flow with a row of loops, each of which counts all of some registers on, and reads them.
func loops(n, regs int) api.Flow {
	f := words(1, 1+regs)
	var first, read []api.Ins
	for i := range regs {
		first, read = append(first, number(1+i, i)), append(read, put(1+i))
	}
	f.Blocks = append(f.Blocks, block(goTo(1), first...))
	for range n {
		b := len(f.Blocks)
		f.Blocks = append(f.Blocks, block(branch(0, b+1, b+2)), block(goTo(b), first...))
	}
	f.Blocks = append(f.Blocks, block(ret(-1), read...))
	return f
}

// K2: there are as many registers as there have to be, up to 1200.
func TestMostRegisters(t *testing.T) {
	// The argument, and for each register 1 that is written first, n in the loops, and n phis.
	for _, x := range []struct {
		n, regs int
		want    api.Errno
	}{{1, 199, 0}, {2, 199, 0}, {3, 171, 0}, {3, 172, api.ErrLimit}, {599, 1, 0}, {54, 11, 0}, {54, 12, api.ErrLimit}} {
		f := loops(x.n, x.regs)
		g, origins, e := ssa.Into(f)
		if n := 1 + x.regs*(2*x.n+1); (n > api.MaxRegs) != (x.want != api.OK) || e != x.want || e == api.OK && len(g.Regs) != n {
			t.Errorf("K2: %v: %d, %d registers, not %d", x, e, len(g.Regs), n)
		}
		if is, _ := ssa.CheckInto(f, g, origins); is != (e == api.OK) || e != api.OK && (!same(g, api.Flow{}) || len(origins) > 0) {
			t.Errorf("P11.3: %v: %v", x, is)
		}
	}
}

// K2: what writes a register alone comes to 1200, and to one more.
func TestMostWritten(t *testing.T) {
	f := words(1, 2)
	for b := range 6 {
		f.Blocks = append(f.Blocks, block(goTo(b+1), slices.Repeat([]api.Ins{number(1, 7)}, 200)...))
	}
	f.Blocks = append(f.Blocks, block(ret(-1)))
	for n, want := range map[int]api.Errno{199: api.OK, 200: api.ErrLimit} {
		f.Blocks[5].Ins = f.Blocks[0].Ins[:n]
		g, origins, e := ssa.Into(f)
		if e != want || e == api.OK && len(g.Regs) != api.MaxRegs {
			t.Errorf("K2: %d: %d, %d registers", n, e, len(g.Regs))
		}
		if is, e := ssa.CheckInto(f, g, origins); e != api.OK || is != (want == api.OK) {
			t.Errorf("K2: %d: %v, %d", n, is, e)
		}
	}
}

// K2: a block that has no room for the phis that it needs: no flow in SSA form can come from this one.
func TestNoRoomForPhis(t *testing.T) {
	for n, want := range map[int]api.Errno{199: api.OK, 200: api.ErrLimit} {
		f := words(1, 2,
			block(branch(0, 1, 2), number(1, 1)),
			block(goTo(2), number(1, 2)),
			block(ret(-1), slices.Repeat([]api.Ins{put(1)}, n)...))
		g, _, e := ssa.Into(f)
		if e != want || e == api.OK && len(g.Blocks[2].Ins) != n+1 {
			t.Errorf("K2: %d: %d", n, e)
		}
	}
}

// K2: Straight has room for 1200 blocks.
func TestMostBlocksOfStraight(t *testing.T) {
	for n, want := range map[int]api.Errno{599: api.OK, 600: api.ErrLimit, 1200: api.ErrLimit} {
		f := words(1, 2)
		for b := range n {
			f.Blocks = append(f.Blocks, block(caught(try(add(1, 0, 0), (b+1)%n), "overflow", (b+1)%n)))
		}
		g, e := ssa.Straight(f)
		if e != want || e == api.OK && len(g.Blocks) != 1+2*n || e != api.OK && !same(g, api.Flow{}) {
			t.Errorf("K2: %d: %d, %d blocks", n, e, len(g.Blocks))
		}
		// With an end that leads to one block alone there is one less.
		f.Blocks[0].End.Whens = nil
		if want = api.OK; n > 600 {
			want = api.ErrLimit
		}
		if g, e := ssa.Straight(f); e != want || e == api.OK && len(g.Blocks) != 2*n {
			t.Errorf("K2: %d: %d, %d blocks", n, e, len(g.Blocks))
		}
	}
}

// exchange returns a flow in SSA form with a loop that exchanges words, two by two.
func exchange(twos, more int) api.Flow {
	f := words(3, 3+2*twos+more, block(goTo(1)), block(branch(2, 1, 2)), block(ret(-1), put(0)))
	for i := range twos {
		a := 3 + 2*i
		f.Blocks[1].Ins = append(f.Blocks[1].Ins, phi(a, 0, a+1), phi(a+1, 1, a))
	}
	f.Blocks[2].Ins = append(f.Blocks[2].Ins, put(3))
	return f
}

// K3: more moves than a block has room for; one register more than there may be.
func TestMostMoves(t *testing.T) {
	f := exchange(100, 0)
	g, e := ssa.Out(f)
	if err := flow.Check(g); e != api.OK || err != api.OK || phiCount(g) > 0 {
		t.Errorf("K3: %d, %d", e, err)
	}
	runOut(t, "many moves", f, []int{1, 2, 0})
	for more, want := range map[int]api.Errno{api.MaxRegs - 204: api.OK, api.MaxRegs - 203: api.ErrLimit} {
		g, e := ssa.Out(exchange(100, more))
		if e != want || e != api.OK && !same(g, api.Flow{}) {
			t.Errorf("K3: %d: %d", more, e)
		}
	}
}

// K3: where a block has no room for the moves, they stand in one of their own.
func TestNoRoomForMoves(t *testing.T) {
	for n := 197; n <= 200; n++ {
		f := words(2, 4,
			block(branch(0, 1, 2)),
			block(goTo(3), slices.Repeat([]api.Ins{put(1)}, n)...),
			block(goTo(3)),
			block(ret(-1), phi(2, 0, 1), phi(3, 1, 0), put(2), put(3)))
		runOut(t, "no room", f, []int{1, 2})
		runOut(t, "no room", f, []int{0, 2})
		blocks := 4
		if n > 198 {
			blocks++
		}
		if g, _ := ssa.Out(f); len(g.Blocks) != blocks {
			t.Errorf("K3: %d: %d blocks", n, len(g.Blocks))
		}
	}
}

// K3: a block more is needed on each of many ways.
func TestMostBlocksOfOut(t *testing.T) {
	for n, want := range map[int]api.Errno{399: api.OK, 599: api.OK, 1198: api.ErrLimit} {
		f := words(2, 3)
		for b := range n {
			f.Blocks = append(f.Blocks, block(branch(0, b+1, n)))
		}
		x := phi(2)
		for b := range n {
			x.Args = append(x.Args, b%2)
		}
		f.Blocks = append(f.Blocks, block(ret(-1), x, put(2)))
		g, e := ssa.Out(f)
		if e != want || e != api.OK && !same(g, api.Flow{}) {
			t.Errorf("K3: %d: %d", n, e)
		}
		if e == api.OK && (flow.Check(g) != api.OK || phiCount(g) > 0) {
			t.Errorf("K3: %d: %d", n, flow.Check(g))
		}
	}
}

// The largest flows: there and back, and the same flow when that is leaned.
func TestLargestFlows(t *testing.T) {
	t.Parallel()
	// So few that all may have a phi.
	const n = 1190
	for name, to := range map[string]func(b int) []int{
		"a row":               func(b int) []int { return []int{b + 1} },
		"loops in loops":      func(b int) []int { return []int{b + 1, n - b} },
		"a ladder":            func(b int) []int { return []int{b + 2, b + 1 + b%2*2} },
		"a ladder to and fro": func(b int) []int { return []int{b + 1, b - 1, b + 2} },
		"far ways":            func(b int) []int { return []int{b + 1, b * 7 % n, b*11%n + 1, b + 300} },
		"a tree":              func(b int) []int { return []int{2*b + 1, 2*b + 2} },
	} {
		t.Run(name, func(t *testing.T) {
			t.Parallel()
			ways := make([][]int, n)
			for b := range ways {
				for _, x := range to(b) {
					if 0 < x && x < n && !slices.Contains(ways[b], x) {
						ways[b] = append(ways[b], x)
					}
				}
			}
			f := words(1, 2)
			for b, l := range ways {
				x := block(ret(-1))
				if len(l) > 0 {
					x.End = call("q", -1, l[0])
				}
				for i, to := range l[min(1, len(l)):] {
					x.End = caught(x.End, string(rune('a'+i)), to)
				}
				if b%200 == 0 {
					x.Ins = append(x.Ins, number(1, b))
				}
				x.Ins = append(x.Ins, put(1))
				f.Blocks = append(f.Blocks, x)
			}
			g, origins, e := ssa.Into(f)
			if e != api.OK {
				t.Fatalf("K2: %s: %d", name, e)
			}
			if is := must[bool](t, f)(ssa.CheckInto(f, g, origins)); !is {
				t.Errorf("P11.3: %s", name)
			}
			if lean := must[api.Flow](t, g)(ssa.Lean(g)); !same(lean, g) {
				t.Errorf("P11.4: %s", name)
			}
			if out, e := ssa.Out(g); e == api.OK && (flow.Check(out) != api.OK || phiCount(out) > 0) || e != api.OK && e != api.ErrLimit {
				t.Errorf("K3: %s: %d", name, e)
			}
		})
	}
}

// K4: a long row of phis that go one after the other, the last one first.
func TestLongestLean(t *testing.T) {
	t.Parallel()
	f := words(1, 1196)
	for b := range 6 {
		f.Blocks = append(f.Blocks, block(branch(0, b, b+1)))
	}
	f.Blocks[0].End = goTo(1)
	f.Blocks = append(f.Blocks, block(ret(-1), put(1)))
	for b := 1; b < 6; b++ {
		for i := range 199 {
			to := 1 + (b-1)*199 + i
			f.Blocks[b].Ins = append(f.Blocks[b].Ins, phi(to, 0, min(to+1, 1+(b-1)*199+198)))
		}
		if b > 1 {
			f.Blocks[b].Ins[0].Args[0] = 1 + (b-2)*199
		}
	}
	g, e := ssa.Lean(f)
	if n, err := ssa.Phis(g); e != api.OK || err != api.OK || n != 0 || len(g.Regs) != len(f.Regs) {
		t.Errorf("K4: %d, %d, %d", e, n, err)
	}
}
