package flow_test

import (
	"slices"
	"testing"

	"argus/api"
	"argus/flow"
)

// many uses registers in all places where they can stand.
func many() api.Flow {
	f := with(proc("p", "wrwriww",
		block(open("it", 4, 1, 0, 1), number(2, 5), api.Ins{Op: api.InsNew, To: 3}, api.Ins{Op: api.InsMake, To: 3, N: 2, Args: []int{0, 1, 2}}, api.Ins{Op: api.InsSpill, A: 2, N: 1}),
		block(caught(next(4, 5, 2, 3), "low", 4, "others", 5)),
		block(goTo(1), phi(6, 5), put(6), api.Ins{Op: api.InsSet, A: 1, B: 2, N: 1}, api.Ins{Op: api.InsClose, A: 4}),
		block(caught(try(api.Ins{Op: api.TryStore, A: 3, B: 2, Args: []int{0}}, 4), "bounds", 5)),
		block(call("p", 2, 5, 0, 1), phi(5, 2, 0)),
		block(branch(0, 6, 6), phi(2, 2, 2, 2)),
		block(ret(2), api.Ins{Op: api.InsEq, To: 2, A: 1, B: 3}, api.Ins{Op: api.InsLoad, To: 2, N: 1}),
	), 2, api.RegWord)
	f.Slots = []uint8{api.RegRef, api.RegWord}
	return f
}

// H6: registers with other numbers.
func TestRenamed(t *testing.T) {
	f := many()
	got, e := flow.Renamed(f, []int{0, 1, 4, 6, 5, 2, 3})
	want := with(proc("p", "wrwwwir",
		block(open("it", 5, 1, 0, 1), number(4, 5), api.Ins{Op: api.InsNew, To: 6}, api.Ins{Op: api.InsMake, To: 6, N: 2, Args: []int{0, 1, 4}}, api.Ins{Op: api.InsSpill, A: 4, N: 1}),
		block(caught(next(5, 2, 2, 3), "low", 4, "others", 5)),
		block(goTo(1), phi(3, 2), put(3), api.Ins{Op: api.InsSet, A: 1, B: 4, N: 1}, api.Ins{Op: api.InsClose, A: 5}),
		block(caught(try(api.Ins{Op: api.TryStore, A: 6, B: 4, Args: []int{0}}, 4), "bounds", 5)),
		block(call("p", 4, 5, 0, 1), phi(2, 4, 0)),
		block(branch(0, 6, 6), phi(4, 4, 4, 4)),
		block(ret(4), api.Ins{Op: api.InsEq, To: 4, A: 1, B: 6}, api.Ins{Op: api.InsLoad, To: 4, N: 1}),
	), 2, api.RegWord)
	want.Slots = f.Slots
	if e != api.OK || !same(got, want) {
		t.Errorf("H6: %d: %+v", e, got)
	}
	// Where there is no register there comes none.
	g, e := flow.Renamed(proc("p", "ww", block(ret(-1), number(0, 1))), []int{1, 0})
	if e != api.OK || !same(g, proc("p", "ww", block(ret(-1), number(1, 1)))) {
		t.Errorf("H6: %d: %+v", e, g)
	}
	g, e = flow.Renamed(proc("p", "ww", block(call("q", -1, 1)), block(ret(-1))), []int{1, 0})
	if e != api.OK || !same(g, proc("p", "ww", block(call("q", -1, 1)), block(ret(-1)))) {
		t.Errorf("H6: %d: %+v", e, g)
	}
}

// H6: blocks with other numbers; Args of phis go along.
func TestMoved(t *testing.T) {
	f := many()
	got, e := flow.Moved(f, []int{0, 5, 6, 4, 3, 1, 2})
	want := with(proc("p", "wrwriww",
		block(open("it", 4, 5, 0, 1), number(2, 5), api.Ins{Op: api.InsNew, To: 3}, api.Ins{Op: api.InsMake, To: 3, N: 2, Args: []int{0, 1, 2}}, api.Ins{Op: api.InsSpill, A: 2, N: 1}),
		block(branch(0, 2, 2), phi(2, 2, 2, 2)),
		block(ret(2), api.Ins{Op: api.InsEq, To: 2, A: 1, B: 3}, api.Ins{Op: api.InsLoad, To: 2, N: 1}),
		block(call("p", 2, 1, 0, 1), phi(5, 0, 2)),
		block(caught(try(api.Ins{Op: api.TryStore, A: 3, B: 2, Args: []int{0}}, 3), "bounds", 1)),
		block(caught(next(4, 5, 6, 4), "low", 3, "others", 1)),
		block(goTo(5), phi(6, 5), put(6), api.Ins{Op: api.InsSet, A: 1, B: 2, N: 1}, api.Ins{Op: api.InsClose, A: 4}),
	), 2, api.RegWord)
	want.Slots = f.Slots
	if e != api.OK || !same(got, want) {
		t.Errorf("H6: %d: %+v", e, got)
	}
	// Blocks 2, 3 and 1 lead to the block 4; its phi has three Args.
	three := func(a, b, c int, order ...int) api.Flow {
		blocks := make([]api.Block, 5)
		for i, b := range []api.Block{block(branch(0, order[1], order[2])), block(branch(0, order[4], order[3])), block(goTo(order[4])), block(goTo(order[4])), block(ret(-1), phi(3, a, b, c))} {
			blocks[order[i]] = b
		}
		return with(proc("p", "wwww", blocks...), 3, 0)
	}
	for _, x := range []struct {
		to      []int
		a, b, c int
	}{{[]int{0, 1, 2, 3, 4}, 0, 1, 2}, {[]int{0, 2, 3, 1, 4}, 2, 0, 1}, {[]int{0, 4, 3, 2, 1}, 2, 1, 0}, {[]int{0, 3, 1, 4, 2}, 1, 0, 2}} {
		g, e := flow.Moved(three(0, 1, 2, 0, 1, 2, 3, 4), x.to)
		if want := three(x.a, x.b, x.c, x.to...); e != api.OK || !same(g, want) {
			t.Errorf("H6: %v: %d: %+v, not %+v", x.to, e, g, want)
		}
	}
}

// H6: numbers that are not as they are to be.
func TestErrorsOfNumbers(t *testing.T) {
	f := many()
	for _, x := range []struct {
		to          []int
		regs, block api.Errno
	}{
		{[]int{0, 1, 2, 3, 4, 5, 6}, api.OK, api.OK},
		{[]int{0, 1, 6, 5, 4, 3, 2}, api.OK, api.OK},
		{[]int{0, 2, 1, 3, 4, 5, 6}, api.ErrArg, api.OK},
		{[]int{1, 0, 2, 3, 4, 5, 6}, api.ErrArg, api.ErrArg},
		{[]int{0, 1, 2, 3, 4, 5}, api.ErrArg, api.ErrArg},
		{[]int{0, 1, 2, 3, 4, 5, 6, 7}, api.ErrArg, api.ErrArg},
		{[]int{0, 1, 2, 3, 4, 5, 7}, api.ErrArg, api.ErrArg},
		{[]int{0, 1, 2, 3, 4, 5, 5}, api.ErrArg, api.ErrArg},
		{[]int{0, 1, 2, 3, 4, 5, -1}, api.ErrArg, api.ErrArg},
		{[]int{0, 1, 2, 3, 4, 5, 1 << 62}, api.ErrArg, api.ErrArg},
		{nil, api.ErrArg, api.ErrArg},
	} {
		if g, e := flow.Renamed(f, x.to); e != x.regs || e != api.OK && !same(g, api.Flow{}) {
			t.Errorf("H6: Renamed %v: %d", x.to, e)
		}
		if g, e := flow.Moved(f, x.to); e != x.block || e != api.OK && !same(g, api.Flow{}) {
			t.Errorf("H6: Moved %v: %d", x.to, e)
		}
	}
	none := proc("p", "", block(ret(-1)))
	for _, l := range [][]int{nil, {}} {
		if g, e := flow.Renamed(none, l); e != api.OK || !same(g, none) {
			t.Errorf("H6: %d", e)
		}
	}
	unwritten, wrong := sum(), sum()
	unwritten.Blocks[3].End.A = 2
	wrong.Blocks[3].End.A = 3
	for g, want := range map[*api.Flow]api.Errno{&unwritten: api.ErrRead, &wrong: api.ErrFlow} {
		for _, to := range [][]int{{0, 1, 2}, nil, slices.Repeat([]int{0}, 5)} {
			if h, e := flow.Renamed(*g, to); e != want || !same(h, api.Flow{}) {
				t.Errorf("H6: %d", e)
			}
			if h, e := flow.Moved(*g, to); e != want || !same(h, api.Flow{}) {
				t.Errorf("H6: %d", e)
			}
		}
	}
}
