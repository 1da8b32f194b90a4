package dom_test

import (
	"slices"
	"testing"

	"argus/api"
	"argus/dom"
)

func TestExamplesOfOrder(t *testing.T) {
	if l, e := dom.Order(sum()); e != api.OK || !slices.Equal(l, []int{0, 1, 3, 2, 4}) {
		t.Errorf("J1: %v, %d", l, e)
	}
	if l, e := dom.Reach(sum()); e != api.OK || !slices.Equal(l, []bool{true, true, true, true, true}) {
		t.Errorf("J1: %v, %d", l, e)
	}
}

func TestExamplesOfParents(t *testing.T) {
	if l, e := dom.Idom(sum()); e != api.OK || !slices.Equal(l, []int{-1, 0, 1, 1, 2}) {
		t.Errorf("J2: %v, %d", l, e)
	}
	for _, x := range []struct {
		a, b int
		want bool
	}{{1, 4, true}, {2, 3, false}, {3, 3, true}} {
		if is, e := dom.Dominates(sum(), x.a, x.b); e != api.OK || is != x.want {
			t.Errorf("J2: %d, %d: %v, %d", x.a, x.b, is, e)
		}
	}
	d, e := dom.Prove(sum())
	if e != api.OK || !slices.Equal(d.Parent, []int{-1, 0, 1, 1, 2}) || !slices.Equal(d.One[4], []int{2, 4}) || !slices.Equal(d.Two[4], []int{2, 4}) {
		t.Errorf("J3: %v, %d", d, e)
	}
}

func TestExamplesOfLoops(t *testing.T) {
	if l, e := dom.Frontier(sum()); e != api.OK || !same(l, [][]int{{}, {1}, {1}, {}, {1}}) {
		t.Errorf("J4: %v, %d", l, e)
	}
	if l, e := dom.Loops(sum()); e != api.OK || !same(l, []api.Loop{{Head: 1, Body: []int{1, 2, 4}}}) {
		t.Errorf("J5: %v, %d", l, e)
	}
	if is, e := dom.Reducible(sum()); e != api.OK || !is {
		t.Errorf("J5: %v, %d", is, e)
	}
}

func TestExamplesOfLive(t *testing.T) {
	in, out, e := dom.Live(sum())
	if e != api.OK || !same(in, [][]int{{0}, {0, 1}, {0, 1}, {1}, {0, 1, 2}}) || !same(out, [][]int{{0, 1}, {0, 1}, {0, 1, 2}, {1}, {0, 1, 2}}) {
		t.Errorf("J6: %v, %v, %d", in, out, e)
	}
}

func TestExamplesOfWitnesses(t *testing.T) {
	if way, is, e := dom.Witness(sum(), 0, 0); e != api.OK || !is || !slices.Equal(way, []int{0, 1}) && !slices.Equal(way, []int{0, 1, 2}) {
		t.Errorf("J7: %v, %v, %d", way, is, e)
	}
	if way, is, e := dom.Witness(sum(), 0, 1); e != api.OK || is || len(way) > 0 {
		t.Errorf("J7: %v, %v, %d", way, is, e)
	}
	for _, x := range []struct {
		block, register int
		way             []int
		want            bool
	}{{4, 1, []int{4, 1, 3}, true}, {4, 1, []int{4}, false}, {1, 2, []int{1, 2, 4}, false}} {
		if is, e := dom.CheckWitness(sum(), x.block, x.register, x.way); e != api.OK || is != x.want {
			t.Errorf("J7: %v: %v, %d", x, is, e)
		}
	}
}
