package color_test

import (
	"slices"
	"testing"

	"argus/api"
	"argus/color"
	"argus/flow"
	"argus/ssa"
)

// sum is the flow of chapter 8.
func sum() api.Flow {
	return with(proc("sum", "www",
		block(goTo(1), number(1, 0)),
		block(branch(0, 2, 3)),
		block(try(ins(api.TryAdd, 1, 1, 0), 4), number(2, -1)),
		block(ret(1)),
		block(try(ins(api.TryAdd, 0, 0, 2), 1)),
	), 1, api.RegWord)
}

// sumForm is the chapter's g: that flow in SSA form.
func sumForm() api.Flow {
	return with(proc("sum", "wwwwwww",
		block(goTo(1), number(1, 0)),
		block(branch(3, 2, 3), phi(3, 0, 5), phi(4, 1, 6)),
		block(try(ins(api.TryAdd, 6, 4, 3), 4), number(2, -1)),
		block(ret(4)),
		block(try(ins(api.TryAdd, 5, 3, 2), 1)),
	), 1, api.RegWord)
}

func TestExamplesOfMeeting(t *testing.T) {
	g := sumForm()
	if is, e := ssa.CheckInto(sum(), g, []int{0, 1, 2, 0, 1, 0, 1}); e != api.OK || !is {
		t.Fatalf("the example is wrong: %v, %d", is, e)
	}
	words, e := color.Pressure(g, api.RegWord)
	refs, err := color.Pressure(g, api.RegRef)
	if words != 3 || refs != 0 || e != api.OK || err != api.OK {
		t.Errorf("N1: %d, %d: %d, %d", words, refs, e, err)
	}
	for _, x := range []struct {
		a, b int
		want bool
	}{{3, 4, true}, {4, 6, false}, {0, 1, true}} {
		if is, e := color.Meet(g, x.a, x.b); e != api.OK || is != x.want {
			t.Errorf("N1: %d, %d: %v, %d", x.a, x.b, is, e)
		}
	}
	crowd, e := color.Crowd(g, api.RegWord)
	if e != api.OK || !slices.Equal(crowd, []int{2, 3, 4}) && !slices.Equal(crowd, []int{2, 3, 6}) {
		t.Errorf("N3: %v, %d", crowd, e)
	}
	for _, l := range [][]int{{2, 3, 4}, {2, 3, 6}} {
		if is, e := color.CheckCrowd(g, api.RegWord, l); e != api.OK || !is {
			t.Errorf("N3: %v: %v, %d", l, is, e)
		}
	}
}

func TestExamplesOfColours(t *testing.T) {
	g := sumForm()
	c, e := color.Color(g)
	is, err := color.CheckColor(g, c)
	n, failed := color.Needs(g, c, api.RegWord)
	if e != api.OK || err != api.OK || failed != api.OK || !is || n != 3 {
		t.Errorf("N2: %v, %v, %d: %d, %d, %d", c, is, n, e, err, failed)
	}
	for _, x := range []struct {
		c    []int
		want bool
	}{{[]int{0, 1, 2, 0, 1, 0, 1}, true}, {[]int{0, 1, 2, 0, 0, 0, 1}, false}, {[]int{1, 0, 2, 0, 1, 0, 1}, false}} {
		if is, e := color.CheckColor(g, x.c); e != api.OK || is != x.want {
			t.Errorf("N2: %v: %v, %d", x.c, is, e)
		}
	}
}

func TestExamplesOfSlots(t *testing.T) {
	f := sum()
	g, e := color.Spill(f, 8, 8)
	if e != api.OK || !same(g, f) {
		t.Errorf("N4: %+v, %d", g, e)
	}
	if g, e := color.Spill(f, 7, 8); e != api.ErrFew || !same(g, api.Flow{}) {
		t.Errorf("N4: %+v, %d", g, e)
	}
	n, e := color.Used(f, api.RegWord)
	a, err := color.Allocate(f, 8, 8)
	m, failed := color.Used(a, api.RegWord)
	if n != 3 || m > 9 || e != api.OK || err != api.OK || failed != api.OK {
		t.Errorf("N5: %d, %d: %d, %d, %d", n, m, e, err, failed)
	}
	if r, e := flow.Run([]api.Flow{a}, "sum", []int{4}, 100); e != api.OK || r.Kind != api.RanDone || r.Value.N != 10 {
		t.Errorf("N5: %v, %d", r, e)
	}
}
