package ssa_test

import (
	"slices"
	"testing"

	"argus/api"
	"argus/flow"
	"argus/ssa"
)

// pairs returns moves: what is written, and what is read.
func pairs(l ...int) []api.Pair {
	var moves []api.Pair
	for i := 0; i < len(l); i += 2 {
		moves = append(moves, api.Pair{To: l[i], From: l[i+1]})
	}
	return moves
}

// The chapter's example of Into has one register less than there have to be: 4 places that write, the argument, and 2 phis.
func TestExamplesOfInto(t *testing.T) {
	f := sum()
	if e := ssa.Check(f); e != api.ErrSsa {
		t.Errorf("K1: %d", e)
	}
	g, origins, e := ssa.Into(f)
	if e != api.OK || len(g.Regs) != 7 || len(origins) != 7 || origins[0] != 0 {
		t.Fatalf("K2: %v, %d, %+v", origins, e, g)
	}
	slices.Sort(origins[1:])
	if !slices.Equal(origins, []int{0, 0, 0, 1, 1, 1, 2}) {
		t.Errorf("K2: %v", origins)
	}
	if l := g.Blocks[1].Ins; len(l) != 2 || l[0].Op != api.InsPhi || l[1].Op != api.InsPhi {
		t.Errorf("K2: %v", l)
	}
	if e := ssa.Check(g); e != api.OK {
		t.Errorf("K1: %d", e)
	}
	g, origins, _ = ssa.Into(f)
	if is, e := ssa.CheckInto(f, g, origins); e != api.OK || !is {
		t.Errorf("K2: %v, %d", is, e)
	}
	if n, e := ssa.Phis(g); e != api.OK || n != 2 {
		t.Errorf("K4: %d, %d", n, e)
	}
	args := g.Blocks[1].Ins[1].Args
	args[0], args[1] = args[1], args[0]
	if is, e := ssa.CheckInto(f, g, origins); e != api.OK || is {
		t.Errorf("K2: %v, %d", is, e)
	}
}

func TestExamplesOfOut(t *testing.T) {
	g, _, _ := ssa.Into(sum())
	want := api.Ran{Kind: api.RanDone, Value: api.Value{Kind: api.ValInt, N: 10}, Steps: 20}
	if ran, e := flow.Run([]api.Flow{g}, "sum", []int{4}, 100); e != api.OK || !same(ran, want) {
		t.Errorf("P11.2: %v, %d", ran, e)
	}
	f, e := ssa.Out(g)
	if is, e := flow.Plain(f); e != api.OK || !is {
		t.Errorf("K3: %v, %d", is, e)
	}
	ran, err := flow.Run([]api.Flow{f}, "sum", []int{4}, 100)
	if want.Steps = ran.Steps; e != api.OK || err != api.OK || !same(ran, want) {
		t.Errorf("K3: %v, %d, %d", ran, e, err)
	}
}

func TestExamplesOfLean(t *testing.T) {
	f := with(words(1, 6,
		block(goTo(1), number(3, 7)),
		block(branch(5, 2, 1), phi(5, 3, 5), put(5)),
		block(ret(5), move(4, 5))), 1, 1)
	want := with(words(1, 6,
		block(goTo(1), number(3, 7)),
		block(branch(3, 2, 1), put(3)),
		block(ret(3), move(4, 3))), 1, 1)
	if g, e := ssa.Lean(f); e != api.OK || !same(g, want) {
		t.Errorf("K4: %+v, %d", g, e)
	}
}

func TestExamplesOfMoves(t *testing.T) {
	circle := pairs(1, 2, 2, 1, 4, 4)
	for _, x := range []struct {
		l    []api.Pair
		want int
	}{{circle, 3}, {pairs(1, 2, 2, 1, 3, 1), 3}, {pairs(1, 2, 2, 3), 2}, {pairs(1, 1), 0}, {nil, 0}} {
		if n, e := ssa.Least(x.l); e != api.OK || n != x.want {
			t.Errorf("K5: %v: %d, %d", x.l, n, e)
		}
		l, e := ssa.Sequence(x.l, 9)
		if is, f := ssa.CheckSequence(x.l, 9, l); e != api.OK || f != api.OK || !is || len(l) != x.want {
			t.Errorf("K5: %v: %v, %d, %v", x.l, l, e, is)
		}
	}
	for _, x := range []struct {
		l, s []api.Pair
		want bool
	}{
		{circle, pairs(9, 1, 1, 2, 2, 9), true},
		{pairs(1, 2, 2, 1, 3, 1), pairs(3, 1, 1, 2, 2, 3), true},
		{circle, pairs(1, 2, 2, 1), false},
	} {
		if is, e := ssa.CheckSequence(x.l, 9, x.s); e != api.OK || is != x.want {
			t.Errorf("K5: %v, %v: %v, %d", x.l, x.s, is, e)
		}
	}
}
