package color_test

import (
	"math"
	"slices"
	"testing"

	"argus/api"
	"argus/color"
)

// pairs is a flow in SSA form, all of whose pairs of registers that meet are listed.
type pairs struct {
	name string
	f    api.Flow
	meet [][2]int
}

func someMeeting() []pairs {
	size := func(to, a int) api.Ins { return api.Ins{Op: api.InsSize, To: to, A: a} }
	return []pairs{
		{"arguments that nothing reads", with(proc("p", "wrwr", block(ret(-1))), 4, 0), [][2]int{{0, 2}, {1, 3}}},
		{"phis that nothing reads", words(1, 4, block(branch(0, 1, 2)), block(goTo(2)), block(ret(-1), phi(1, 0, 0), phi(2, 0, 0), number(3, 1))), [][2]int{{1, 2}}},
		{"what is read later", words(0, 3, block(ret(-1), number(0, 1), number(1, 2), put(0), number(2, 3), put(1))), [][2]int{{0, 1}, {1, 2}}},
		{"what is written where it is read last", words(1, 2, block(ret(-1), move(1, 0), put(1))), nil},
		{"what nothing reads, where something is live", words(1, 2, block(ret(-1), number(1, 1), put(0))), [][2]int{{0, 1}}},
		{"other kinds", with(proc("p", "rww", block(ret(-1), size(1, 0), put(1), size(2, 0))), 1, 0), nil},
		{"what is live behind a handler alone", words(2, 3, block(caught(try(ins(api.TryAdd, 2, 0, 0), 1), "overflow", 2)), block(ret(-1), put(2)), block(ret(-1), put(1))), [][2]int{{0, 1}}},
		{"what is live behind an end", words(2, 3, block(caught(try(ins(api.TryAdd, 2, 0, 0), 1), "overflow", 2)), block(ret(-1), put(1)), block(ret(-1))), [][2]int{{0, 1}, {1, 2}}},
		{"an end that leads to its To twice", words(2, 3, block(caught(try(ins(api.TryAdd, 2, 0, 0), 1), "overflow", 1)), block(ret(-1), put(1))), [][2]int{{0, 1}, {1, 2}}},
		{"an end whose next is its Else", with(proc("p", "wiw", block(open("i", 1, 1)), block(next(1, 2, 2, 2)), block(ret(-1), put(0))), 1, 0), [][2]int{{0, 2}}},
		{"what a phi reads on its way", words(1, 5, block(branch(0, 1, 2), number(1, 1)), block(goTo(3), number(2, 2)), block(goTo(3), number(3, 3)), block(ret(-1), phi(4, 2, 1), put(4))),
			[][2]int{{0, 1}, {1, 3}}},
		{"a phi and what it reads, which is live", words(1, 3, block(branch(0, 1, 2), number(1, 1)), block(goTo(2)), block(ret(-1), phi(2, 0, 1), put(2), put(1))), [][2]int{{0, 1}, {1, 2}}},
		{"what an end writes and a phi reads", words(1, 3, block(caught(try(ins(api.TryAdd, 1, 0, 0), 1), "overflow", 1)), block(ret(-1), phi(2, 0), put(2), put(0))), [][2]int{{0, 1}, {0, 2}}},
		{"phis on one way", words(2, 5, block(caught(try(ins(api.TryAdd, 2, 0, 0), 2), "x", 1)), block(goTo(2)), block(ret(-1), phi(3, 0, 1), phi(4, 1, 0))), [][2]int{{0, 1}, {0, 2}, {1, 2}, {3, 4}}},
		{"blocks to which no way leads", words(1, 4, block(ret(-1)), block(goTo(1), number(1, 1), number(2, 1), put(1), put(2)), block(ret(-1), number(3, 1), put(0))), nil},
		{"a phi on a way that there is not", words(1, 4, block(goTo(2)), block(goTo(2)), block(ret(-1), phi(2, 0, 3), number(1, 1), put(2), put(1))), [][2]int{{1, 2}}},
		{"a way back to the beginning", words(2, 3, block(branch(2, 0, 1), number(2, 1)), block(ret(-1), put(0))), [][2]int{{0, 1}, {0, 2}}},
		{"a loop", words(1, 3, block(goTo(1), number(1, 1)), block(branch(2, 1, 2), ins(api.InsLt, 2, 0, 1)), block(ret(-1))), [][2]int{{0, 1}, {0, 2}, {1, 2}}},
		{"iterations", proc("p", "iiiww", block(open("i", 0, 1)), block(open("i", 1, 2)), block(next(1, 3, 2, 3)), block(next(0, 4, 3, 4)), block(open("i", 2, 5)), block(ret(-1))), [][2]int{{0, 1}}},
		{"a result, and what is called", with(proc("p", "rwrw", block(call("q", 2, 1, 0, 1)), block(ret(-1), put(1), size(3, 0))), 2, 0), [][2]int{{0, 2}}},
	}
}

func TestMeeting(t *testing.T) {
	for _, x := range someMeeting() {
		for a := range x.f.Regs {
			for b := range x.f.Regs {
				want := slices.Contains(x.meet, [2]int{min(a, b), max(a, b)})
				if is, e := color.Meet(x.f, a, b); e != api.OK || is != want {
					t.Errorf("N1: %s: %d, %d: %v, %d", x.name, a, b, is, e)
				}
			}
		}
	}
}

// N1, N3: pressures and crowds of the same flows.
func TestCrowds(t *testing.T) {
	for _, x := range someMeeting() {
		p := newPlain(x.f)
		for _, kind := range kinds {
			n, e := color.Pressure(x.f, kind)
			crowd, err := color.Crowd(x.f, kind)
			if n != p.pressure(kind) || e != api.OK || err != api.OK || len(crowd) != n || !p.isCrowd(kind, crowd) {
				t.Errorf("N1, N3: %s: %d: %d, %v: %d, %d", x.name, kind, n, crowd, e, err)
			}
		}
		for _, pair := range x.meet {
			kind := x.f.Regs[pair[0]]
			for _, y := range []struct {
				kind uint8
				l    []int
				want bool
			}{{kind, pair[:], true}, {kind, []int{pair[1], pair[0]}, false}, {kind, []int{pair[0], pair[0]}, false}, {kind%3 + 1, pair[:], false}} {
				if is, e := color.CheckCrowd(x.f, y.kind, y.l); e != api.OK || is != y.want {
					t.Errorf("N3: %s: %d, %v: %v, %d", x.name, y.kind, y.l, is, e)
				}
			}
		}
	}
}

// N3: lists of less than two registers, and lists of any numbers.
func TestOtherCrowds(t *testing.T) {
	f := with(proc("p", "wrw", block(ret(-1))), 1, 0)
	for _, x := range []struct {
		l    []int
		want bool
	}{{nil, true}, {[]int{0}, true}, {[]int{2}, true}, {[]int{1}, false}, {[]int{3}, false}, {[]int{-1}, false}, {[]int{math.MinInt, 0}, false}, {[]int{0, math.MaxInt}, false},
		{[]int{0, 2}, false}, {slices.Repeat([]int{0}, 5000), false}} {
		if is, e := color.CheckCrowd(f, api.RegWord, x.l); e != api.OK || is != x.want {
			t.Errorf("N3: %v: %v, %d", x.l, is, e)
		}
	}
}

// N2: colourings of a flow with arguments of two kinds, and with a register that stands nowhere.
func TestColours(t *testing.T) {
	f := with(proc("p", "wrwrwww",
		block(ret(-1), number(4, 1), put(4), number(5, 1), put(5), put(0))), 4, 0)
	c, e := color.Color(f)
	if e != api.OK || !slices.Equal(c[:4], []int{0, 0, 1, 1}) || c[6] != 0 {
		t.Errorf("N2: %v, %d", c, e)
	}
	for _, x := range []struct {
		c           []int
		words, refs int
	}{
		{[]int{0, 0, 1, 1, 1, 1, 0}, 2, 2},
		{[]int{0, 0, 1, 1, 2, 1, 0}, 3, 2},
		{[]int{0, 0, 1, 1, 8, 9, 0}, 10, 2},
		{[]int{0, 0, 1, 1, 1, 1, 50}, 2, 2},
		{[]int{0, 0, 1, 1, 0, 1, 0}, -1, 0},
		{[]int{0, 1, 1, 0, 1, 1, 0}, -1, 0},
		{[]int{1, 0, 0, 1, 2, 2, 0}, -1, 0},
		{[]int{0, 0, 2, 1, 1, 1, 0}, -1, 0},
		{[]int{0, 0, 1, 1, 1, 1, -1}, -1, 0},
		{[]int{0, 0, 1, 1, math.MinInt, 1, 0}, -1, 0},
		{[]int{0, 0, 1, 1, 1, 1}, -1, 0},
		{[]int{0, 0, 1, 1, 1, 1, 0, 0}, -1, 0},
		{nil, -1, 0},
	} {
		if is, e := color.CheckColor(f, x.c); e != api.OK || is != (x.words >= 0) {
			t.Errorf("N2: %v: %v, %d", x.c, is, e)
		}
		words, e := color.Needs(f, x.c, api.RegWord)
		refs, err := color.Needs(f, x.c, api.RegRef)
		iters, failed := color.Needs(f, x.c, api.RegIter)
		if x.words >= 0 && (words != x.words || refs != x.refs || iters != 0 || e != api.OK || err != api.OK || failed != api.OK) {
			t.Errorf("N2: %v: %d, %d, %d: %d, %d, %d", x.c, words, refs, iters, e, err, failed)
		}
		if x.words < 0 && (words != 0 || refs != 0 || iters != 0 || e != api.ErrArg || err != api.ErrArg || failed != api.ErrArg) {
			t.Errorf("N2: %v: %d, %d, %d: %d, %d, %d", x.c, words, refs, iters, e, err, failed)
		}
	}
}

// N2: registers that do not count need no numbers.
func TestNoColours(t *testing.T) {
	f := words(0, 3, block(ret(-1)), block(ret(-1), number(1, 1), put(1)))
	c, e := color.Color(f)
	n, err := color.Needs(f, []int{0, 5, 7}, api.RegWord)
	if e != api.OK || err != api.OK || !slices.Equal(c, []int{0, 0, 0}) || n != 0 {
		t.Errorf("N2: %v, %d: %d, %d", c, n, e, err)
	}
	if c, e := color.Color(proc("p", "", block(ret(-1)))); e != api.OK || len(c) != 0 {
		t.Errorf("N2: %v, %d", c, e)
	}
}

// N2, P14.2: how many numbers a colouring needs that has the greatest one is more than an int says; that is no fewer than a crowd has.
func TestColoursUpToTheGreatest(t *testing.T) {
	f := proc("p", "wwri", block(ret(-1), number(0, 1), number(1, 2), put(0), put(1)))
	for _, x := range []struct {
		c    []int
		kind uint8
		want int
		e    api.Errno
	}{
		{[]int{0, math.MaxInt, 0, 0}, api.RegWord, 0, api.ErrLimit},
		{[]int{math.MaxInt, 0, 0, 0}, api.RegWord, 0, api.ErrLimit},
		{[]int{math.MaxInt, math.MaxInt - 1, 0, 0}, api.RegWord, 0, api.ErrLimit},
		{[]int{math.MaxInt, math.MaxInt, 0, 0}, api.RegWord, 0, api.ErrArg},
		{[]int{0, math.MaxInt - 1, 0, 0}, api.RegWord, math.MaxInt, api.OK},
		{[]int{0, math.MaxInt, 0, 0}, api.RegRef, 0, api.OK},
		{[]int{0, 1, math.MaxInt, math.MaxInt}, api.RegWord, 2, api.OK},
		{[]int{0, 1, math.MaxInt, math.MaxInt}, api.RegRef, 0, api.OK},
		{[]int{0, 1, math.MaxInt, math.MaxInt}, api.RegIter, 0, api.OK},
		{[]int{0, math.MaxInt, 0, 0}, 0, 0, api.ErrArg},
	} {
		n, e := color.Needs(f, x.c, x.kind)
		if n != x.want || e != x.e {
			t.Errorf("N2: %v, %d: %d, %d", x.c, x.kind, n, e)
		}
		if is, e := color.CheckColor(f, x.c); is != (x.e != api.ErrArg || x.kind == 0) || e != api.OK {
			t.Errorf("N2: %v: %v, %d", x.c, is, e)
		}
	}
	one := proc("p", "w", block(ret(-1), number(0, 1)))
	if n, e := color.Needs(one, []int{math.MaxInt}, api.RegWord); n != 0 || e != api.ErrLimit {
		t.Errorf("N2: %d, %d", n, e)
	}
}

// The errors, in their order.
func TestErrors(t *testing.T) {
	good := sumForm()
	wrong, unread, twice := copiedFlow(good), copiedFlow(good), sum()
	wrong.Name = ""
	unread.Blocks[0].Ins = nil
	colours := must[[]int](t, good)(color.Color(good))
	for _, x := range []struct {
		f    api.Flow
		want api.Errno
	}{{good, api.OK}, {wrong, api.ErrFlow}, {unread, api.ErrRead}, {twice, api.ErrSsa}} {
		for _, kind := range []uint8{0, 1, 2, 3, 4, 255} {
			want := x.want
			if want == api.OK && (kind < 1 || kind > 3) {
				want = api.ErrArg
			}
			n, e := color.Pressure(x.f, kind)
			m, err := color.Needs(x.f, colours, kind)
			l, failed := color.Crowd(x.f, kind)
			is, refused := color.CheckCrowd(x.f, kind, nil)
			if e != want || err != want || failed != want || refused != want || want != api.OK && (n != 0 || m != 0 || len(l) > 0 || is) {
				t.Errorf("%d: %d, %d, %d, %d, not %d", kind, e, err, failed, refused, want)
			}
			if want == api.ErrSsa {
				want = api.OK
				if kind < 1 || kind > 3 {
					want = api.ErrArg
				}
			}
			if n, e := color.Used(x.f, kind); e != want || want != api.OK && n != 0 {
				t.Errorf("N5: %d: %d, %d, not %d", kind, n, e, want)
			}
		}
		for _, reg := range []int{0, 6, 7, -1, math.MaxInt, math.MinInt} {
			want := x.want
			if want == api.OK && (reg < 0 || reg > 6) {
				want = api.ErrArg
			}
			one, e := color.Meet(x.f, 3, reg)
			two, err := color.Meet(x.f, reg, 3)
			if e != want || err != want || want != api.OK && (one || two) {
				t.Errorf("N1: %d: %d, %d, not %d", reg, e, err, want)
			}
		}
		c, e := color.Color(x.f)
		is, err := color.CheckColor(x.f, colours)
		if e != x.want || err != x.want || is != (e == api.OK) || len(c) > 0 != is {
			t.Errorf("N2: %v, %v: %d, %d, not %d", c, is, e, err, x.want)
		}
	}
}

// The errors of Spill and Allocate, in their order.
func TestErrorsOfSlots(t *testing.T) {
	wrong, slots := sum(), sum()
	wrong.Name = ""
	slots.Slots = []uint8{1}
	phis, both := sumForm(), sumForm()
	both.Slots = []uint8{2}
	for _, x := range []struct {
		f           api.Flow
		words, refs int
		want        api.Errno
	}{
		{wrong, 7, 7, api.ErrFlow}, {both, 7, 7, api.ErrPhi}, {phis, 8, 8, api.ErrPhi}, {slots, 7, 7, api.ErrArg}, {slots, 8, 8, api.ErrArg},
		{sum(), 7, 8, api.ErrFew}, {sum(), 8, 7, api.ErrFew}, {sum(), math.MinInt, math.MaxInt, api.ErrFew}, {sum(), 0, 8, api.ErrFew}, {sum(), 8, -1, api.ErrFew},
		{row(100, 20), 7, 8, api.ErrFew}, {row(100, 20), 8, 8, api.ErrLimit}, {sum(), math.MaxInt, math.MaxInt, api.OK}, {sum(), 8, math.MaxInt, api.OK},
	} {
		g, e := color.Spill(x.f, x.words, x.refs)
		h, err := color.Allocate(x.f, x.words, x.refs)
		if e != x.want || err != x.want || e != api.OK && (!same(g, api.Flow{}) || !same(h, api.Flow{})) {
			t.Errorf("N4, N5: %d, %d: %d, %d, not %d", x.words, x.refs, e, err, x.want)
		}
	}
}

// N5: Used counts what stands anywhere.
func TestUsed(t *testing.T) {
	f := with(proc("p", "wrwwwwwiirrw",
		block(goTo(1), number(3, 1)),
		block(ret(-1), phi(2, 3, 4)),
		block(goTo(1), number(5, 1), api.Ins{Op: api.InsClose, A: 7}, api.Ins{Op: api.InsNew, To: 9})), 2, 0)
	for kind, want := range map[uint8]int{api.RegWord: 5, api.RegRef: 2, api.RegIter: 1} {
		if n, e := color.Used(f, kind); e != api.OK || n != want {
			t.Errorf("N5: %d: %d, not %d, %d", kind, n, want, e)
		}
	}
}
