package share_test

import (
	"slices"
	"strings"
	"testing"

	"argus/api"
	"argus/flow"
	"argus/share"
)

// busy returns a procedure with all that a flow may have, and the iterator and the procedure that it calls.
func busy() []api.Flow {
	f := with(proc("main", "wwwi",
		block(caught(call("sub", 1, 1, 0), "low", 3), number(2, 5)),
		block(open("it", 3, 2, 0, 2)),
		block(caught(next(3, 1, 2, 3), "high", 4)),
		block(branch(0, 5, 4), put(0)),
		block(signal("low")),
		block(try(api.Ins{Op: api.TryAdd, To: 1, A: 0, B: 0}, 6)),
		block(ret(1)),
		block(call("main", -1, 7, 0))), 1, api.RegWord)
	f.Signals, f.Slots = []string{"high", "low"}, []uint8{1, 2}
	return []api.Flow{
		iterator(proc("it", "ww", block(yield(0, 1)), block(ret(-1))), 2, api.RegWord),
		f,
		with(proc("sub", "w", block(ret(0))), 1, api.RegWord),
	}
}

// M1: the calls are those of all blocks, of EndCall and EndOpen alone, each as often as it is there.
func TestCalls(t *testing.T) {
	l := busy()
	for i, want := range [][]string{nil, {"sub", "it", "main"}, nil} {
		if names, e := share.Calls(l[i]); e != api.OK || !slices.Equal(names, want) {
			t.Errorf("M1: %q, %d", names, e)
		}
	}
	if names, e := share.Calls(calling("p", "q", "p", "q", "q")); e != api.OK || !slices.Equal(names, []string{"q", "p", "q", "q"}) {
		t.Errorf("M1: %q, %d", names, e)
	}
}

// M1: the Name of a flow and those in its calls do not count; all else does.
func TestShapes(t *testing.T) {
	f := busy()[1]
	want, e := share.Shape(f)
	if e != api.OK || strings.Count(want, "name _\n") != 3 || strings.Count(want, "name low\n") != 1 || !strings.HasPrefix(want, "flow _ proc 1 1\n") {
		t.Errorf("M1: %d, %q", e, want)
	}
	for i, change := range []struct {
		do     func(f *api.Flow)
		isSame bool
	}{
		{func(f *api.Flow) { f.Name = "other" }, true},
		{func(f *api.Flow) { f.Name = "_" }, true},
		{func(f *api.Flow) { f.Blocks[0].End.Name = "_" }, true},
		{func(f *api.Flow) { f.Blocks[1].End.Name = "sub" }, true},
		{func(f *api.Flow) { f.Blocks[7].End.Name = strings.Repeat("n", 120) }, true},
		{func(f *api.Flow) { f.Slots = f.Slots[:1] }, false},
		{func(f *api.Flow) { f.Signals = f.Signals[1:] }, false},
		{func(f *api.Flow) { f.Signals[0] = "hig" }, false},
		{func(f *api.Flow) { f.Regs = append(f.Regs, api.RegRef) }, false},
		{func(f *api.Flow) { f.Args = 2 }, false},
		{func(f *api.Flow) { f.Blocks = append(f.Blocks, block(ret(0))) }, false},
		{func(f *api.Flow) { f.Blocks[0].Ins[0].N = 6 }, false},
		{func(f *api.Flow) { f.Blocks[0].Ins = append(f.Blocks[0].Ins, put(0)) }, false},
		{func(f *api.Flow) { f.Blocks[0].End.A = -1 }, false},
		{func(f *api.Flow) { f.Blocks[0].End.Others = 4 }, false},
		{func(f *api.Flow) { f.Blocks[0].End.Whens[0].Name = "lo" }, false},
		{func(f *api.Flow) { f.Blocks[0].End.Whens[0].To = 4 }, false},
		{func(f *api.Flow) { f.Blocks[0].End.Args[0] = 2 }, false},
		{func(f *api.Flow) { f.Blocks[1].End.Args = []int{2, 0} }, false},
		{func(f *api.Flow) { f.Blocks[4].End.Name = "lo" }, false},
		{func(f *api.Flow) { f.Blocks[4].End.Name = "high" }, false},
		{func(f *api.Flow) { f.Blocks[5].End.Ins.Op = api.TrySub }, false},
		{func(f *api.Flow) { f.Blocks[6].End.A = 0 }, false},
		{func(f *api.Flow) { f.Blocks[7].End.To = 6 }, false},
	} {
		g := copied(f)
		change.do(&g)
		if s, e := share.Shape(g); e != api.OK || (s == want) != change.isSame {
			t.Errorf("M1: %d: %d, %q", i, e, s)
		}
	}
	it := busy()[0]
	a, _ := share.Shape(it)
	it.Iter = false
	if b, e := share.Shape(it); e == api.OK || b != "" || a == "" {
		t.Errorf("M1: %d, %q", e, b)
	}
}

// M1: a flow that is not valid has neither calls nor a shape; whether there is what it calls is not asked.
func TestErrorsOfFlows(t *testing.T) {
	read := calling("p")
	read.Regs = []uint8{1}
	read.Blocks[0].Ins = []api.Ins{put(0)}
	bad := calling("", "q")
	empty := calling("p", "")
	for _, x := range []struct {
		f    api.Flow
		want api.Errno
	}{{api.Flow{}, api.ErrFlow}, {bad, api.ErrFlow}, {empty, api.ErrFlow}, {calling("p", "a b"), api.ErrFlow}, {calling("a b", "p"), api.ErrFlow},
		{calling("p", strings.Repeat("n", 121)), api.ErrFlow}, {read, api.ErrRead}, {calling("p", "none"), api.OK}} {
		names, e := share.Calls(x.f)
		s, g := share.Shape(x.f)
		if e != x.want || g != x.want || e != api.OK && (len(names) > 0 || s != "") {
			t.Errorf("M1: %d, %q, %d, %q: %+v", e, names, g, s, x.f)
		}
	}
}

// M2: any lists of numbers: only partitions, in order, are accepted.
func TestListsThatAreNoPartition(t *testing.T) {
	l := []api.Flow{calling("a"), calling("b"), calling("c")}
	for _, x := range []struct {
		c    [][]int
		want bool
	}{
		{[][]int{{0, 1, 2}}, true}, {[][]int{{0}, {1}, {2}}, true}, {[][]int{{0, 2}, {1}}, true}, {[][]int{{0}, {1, 2}}, true}, {[][]int{{0, 1}, {2}}, true},
		{nil, false}, {[][]int{{}}, false}, {[][]int{{0, 1}}, false}, {[][]int{{0, 1}, {1, 2}}, false}, {[][]int{{0, 1, 2}, {}}, false}, {[][]int{{}, {0, 1, 2}}, false},
		{[][]int{{0}, {}, {1, 2}}, false}, {[][]int{{1, 0, 2}}, false}, {[][]int{{0, 2, 1}}, false}, {[][]int{{0, 0, 1, 2}}, false}, {[][]int{{0, 1, 2, 2}}, false},
		{[][]int{{1, 2}, {0}}, false}, {[][]int{{0}, {2}, {1}}, false}, {[][]int{{1}, {0}, {2}}, false}, {[][]int{{0, 1, 2, 3}}, false}, {[][]int{{0, 1, 2}, {3}}, false},
		{[][]int{{-1, 0, 1, 2}}, false}, {[][]int{{-1}, {0, 1, 2}}, false}, {[][]int{{0, 1}, {1 << 62}}, false}, {[][]int{{0, 1, 1 << 62}}, false}, {[][]int{{-1 << 63, 1, 2}}, false},
		{[][]int{{0, 1, 2}, {0, 1, 2}}, false}, {[][]int{{0, 1, 2}, {2}}, false}, {[][]int{{1, 2}}, false}, {[][]int{{0}, {1}}, false},
	} {
		if is, e := share.CheckClasses(l, x.c); e != api.OK || is != x.want {
			t.Errorf("M2: %v: %v, %d", x.c, is, e)
		}
	}
}

// M2: what is called has to be in one class, too, at each place; a flow that calls itself may be with one that calls another.
func TestClosed(t *testing.T) {
	l := []api.Flow{calling("a", "a", "z"), calling("b", "a", "y"), calling("c", "z", "a"), calling("d", "d", "y"), calling("y"), calling("z")}
	for _, x := range []struct {
		c    [][]int
		want bool
	}{
		{[][]int{{0, 1, 3}, {2}, {4, 5}}, true},
		{[][]int{{0, 3}, {1}, {2}, {4, 5}}, true},
		{[][]int{{0, 1}, {2}, {3}, {4, 5}}, true},
		{[][]int{{0}, {1}, {2}, {3}, {4, 5}}, true},
		{[][]int{{0, 1, 3}, {2}, {4}, {5}}, false},
		{[][]int{{0, 1}, {2}, {3}, {4}, {5}}, false},
		{[][]int{{0}, {1, 3}, {2}, {4, 5}}, false},
		{[][]int{{0, 2}, {1}, {3}, {4, 5}}, false},
		{[][]int{{0, 1, 2, 3}, {4, 5}}, false},
		{[][]int{{0}, {1}, {2}, {3, 4}, {5}}, false},
	} {
		if is, e := share.CheckClasses(l, x.c); e != api.OK || is != x.want {
			t.Errorf("M2: %v: %v, %d", x.c, is, e)
		}
	}
	if c, e := share.Classes(l); e != api.OK || !same(c, [][]int{{0, 1, 3}, {2}, {4, 5}}) {
		t.Errorf("M2: %v, %d", c, e)
	}
}

// M2: classes stand in the order of their first indices, also where what is called is found to be apart late.
func TestOrderOfClasses(t *testing.T) {
	l := []api.Flow{calling("a", "y"), calling("b", "x"), calling("c", "y"), calling("d", "x"), calling("x", "x", "x"), calling("y")}
	if c, e := share.Classes(l); e != api.OK || !same(c, [][]int{{0, 2}, {1, 3}, {4}, {5}}) {
		t.Errorf("M2: %v, %d", c, e)
	}
	l = []api.Flow{calling("a", "z"), calling("b", "a"), calling("c", "b"), calling("d", "c"), calling("e", "b"), calling("f", "a"), calling("g", "z"), calling("z")}
	if c, e := share.Classes(l); e != api.OK || !same(c, [][]int{{0, 6}, {1, 5}, {2, 4}, {3}, {7}}) {
		t.Errorf("M2: %v, %d", c, e)
	}
}

// M3: a shorter way comes before a lesser one; of those of one length it is the least one. On the way flows have one shape.
func TestWays(t *testing.T) {
	// x and y have other shapes. b and c differ at 2, and at 0, 0; d and e at 1, 0 and at 1, 1; f and g are alike; h and i are as d and e.
	l := []api.Flow{
		calling("b", "p", "x", "x"), calling("c", "q", "x", "y"),
		calling("d", "x", "r", "s"), calling("e", "x", "s", "r"),
		calling("f", "f", "x", "g"), calling("g", "g", "x", "f"),
		calling("h", "x", "r", "d"), calling("i", "x", "s", "d"),
		calling("p", "x", "x", "x"), calling("q", "y", "x", "x"),
		calling("r", "x", "x", "p"), calling("s", "y", "y", "p"),
		calling("x"), calling("y", "y"),
	}
	at := func(name string) int {
		return slices.IndexFunc(l, func(f api.Flow) bool { return f.Name == name })
	}
	for _, x := range []struct {
		a, b string
		way  []int
		is   bool
	}{
		{"b", "c", []int{2}, true}, {"c", "b", []int{2}, true}, {"d", "e", []int{1, 0}, true}, {"h", "i", []int{1, 0}, true},
		{"f", "g", nil, false}, {"f", "f", nil, false}, {"x", "y", []int{}, true}, {"r", "s", []int{0}, true}, {"x", "x", nil, false},
		{"p", "q", []int{0}, true}, {"d", "h", []int{2, 0}, true},
	} {
		way, is, e := share.Apart(l, at(x.a), at(x.b))
		if e != api.OK || is != x.is || !slices.Equal(way, x.way) {
			t.Errorf("M3: %s, %s: %v, %v, %d", x.a, x.b, way, is, e)
		}
	}
	for _, x := range []struct {
		a, b string
		way  []int
		is   bool
	}{
		{"b", "c", []int{2}, true}, {"b", "c", []int{0, 0}, true}, {"b", "c", []int{0}, false}, {"b", "c", []int{1}, false}, {"b", "c", nil, false},
		{"b", "c", []int{3}, false}, {"b", "c", []int{-1}, false}, {"b", "c", []int{2, 0}, false}, {"b", "c", []int{0, 0, 0}, false}, {"b", "c", []int{0, 3}, false},
		{"d", "e", []int{1, 0}, true}, {"d", "e", []int{1, 1}, true}, {"d", "e", []int{1, 2}, false}, {"d", "e", []int{2, 1}, true}, {"d", "e", []int{1, 0, 0}, false},
		{"x", "y", nil, true}, {"x", "y", []int{0}, false}, {"y", "x", []int{0}, false}, {"f", "g", []int{0, 2, 2, 0}, false}, {"f", "g", []int{1}, false},
		{"x", "x", nil, false}, {"b", "b", []int{2}, false}, {"b", "c", []int{1 << 62}, false}, {"b", "c", []int{-1 << 63, 2}, false},
		// These have not one shape at first, so that no longer way tells them apart.
		{"x", "b", []int{0}, false}, {"y", "b", []int{0}, false}, {"b", "y", []int{0}, false},
	} {
		if is, e := share.CheckApart(l, at(x.a), at(x.b), x.way); e != api.OK || is != x.is {
			t.Errorf("M3: %s, %s: %v: %v, %d", x.a, x.b, x.way, is, e)
		}
	}
}

// M4: what is kept stays, under its Name; of several that are kept in a class the least one is called.
func TestMerge(t *testing.T) {
	l := []api.Flow{calling("a", "b", "z"), calling("b", "c", "y"), calling("c", "a", "x"), calling("m", "c"), calling("x"), calling("y"), calling("z")}
	for _, x := range []struct {
		keep  []string
		want  []api.Flow
		names []string
	}{
		{nil, []api.Flow{calling("a", "a", "x"), calling("m", "a"), calling("x")}, []string{"a", "a", "a", "m", "x", "x", "x"}},
		{[]string{"c"}, []api.Flow{calling("c", "c", "x"), calling("m", "c"), calling("x")}, []string{"c", "c", "c", "m", "x", "x", "x"}},
		{[]string{"c", "b", "c"}, []api.Flow{calling("b", "b", "x"), calling("c", "b", "x"), calling("m", "b"), calling("x")}, []string{"b", "b", "b", "m", "x", "x", "x"}},
		{[]string{"z", "m", "y"}, []api.Flow{calling("a", "a", "y"), calling("m", "a"), calling("y"), calling("z")}, []string{"a", "a", "a", "m", "y", "y", "y"}},
		{[]string{"a", "b", "c", "m", "x", "y", "z"}, []api.Flow{calling("a", "a", "x"), calling("b", "a", "x"), calling("c", "a", "x"), calling("m", "a"), calling("x"), calling("y"), calling("z")}, []string{"a", "a", "a", "m", "x", "x", "x"}},
	} {
		m, e := share.Merge(l, x.keep)
		names, g := share.Names(l, x.keep)
		if e != api.OK || g != api.OK || !same(m, x.want) || !slices.Equal(names, x.names) {
			t.Errorf("M4: %q: %+v, %d; %q, %d", x.keep, m, e, names, g)
		}
	}
}

// M4: iterators that are alike become one, too; the Name of a signal stays, even if a flow has it.
func TestMergeOfIterators(t *testing.T) {
	it := func(name string) api.Flow {
		return iterator(proc(name, "w", block(yield(0, 1), number(0, 7)), block(signal(name[:1]))), 0, api.RegWord)
	}
	main := func(one, two string) api.Flow {
		return proc("main", "wii", block(open(one, 1, 1)), block(open(two, 2, 2)), block(next(1, 0, 3, 3)), block(next(2, 0, 4, 4)), block(ret(-1)))
	}
	l := []api.Flow{it("i"), it("i2"), it("i3"), main("i2", "i3")}
	m, e := share.Merge(l, []string{"main"})
	if e != api.OK || !same(m, []api.Flow{it("i"), main("i", "i")}) {
		t.Errorf("M4: %+v, %d", m, e)
	}
	m, e = share.Merge([]api.Flow{it("i"), it("j"), main("i", "j")}, nil)
	if e != api.OK || !same(m, []api.Flow{it("i"), it("j"), main("i", "j")}) {
		t.Errorf("M4: %+v, %d", m, e)
	}
}

// An empty list has no flows, no classes, and no indices.
func TestEmptyList(t *testing.T) {
	if c, e := share.Classes(nil); e != api.OK || len(c) > 0 {
		t.Errorf("M2: %v, %d", c, e)
	}
	for _, x := range []struct {
		c    [][]int
		want bool
	}{{nil, true}, {[][]int{}, true}, {[][]int{{}}, false}, {[][]int{{0}}, false}} {
		if is, e := share.CheckClasses(nil, x.c); e != api.OK || is != x.want {
			t.Errorf("M2: %v: %v, %d", x.c, is, e)
		}
	}
	if way, is, e := share.Apart(nil, 0, 0); e != api.ErrArg || is || len(way) > 0 {
		t.Errorf("M3: %v, %v, %d", way, is, e)
	}
	m, e := share.Merge(nil, nil)
	names, g := share.Names(nil, nil)
	if e != api.OK || g != api.OK || len(m) > 0 || len(names) > 0 {
		t.Errorf("M4: %v, %d; %v, %d", m, e, names, g)
	}
	if _, e := share.Merge(nil, []string{"a"}); e != api.ErrNone {
		t.Errorf("M4: %d", e)
	}
}

// listErrors returns the errors of all functions with a list.
func listErrors(t *testing.T, l []api.Flow, a, b int, keep []string) []api.Errno {
	t.Helper()
	c, e1 := share.Classes(l)
	is, e2 := share.CheckClasses(l, c)
	way, has, e3 := share.Apart(l, a, b)
	isToo, e4 := share.CheckApart(l, a, b, way)
	m, e5 := share.Merge(l, keep)
	names, e6 := share.Names(l, keep)
	if e1 != api.OK && len(c) > 0 || e2 != api.OK && is || e3 != api.OK && (has || len(way) > 0) || e4 != api.OK && isToo || e5 != api.OK && len(m) > 0 || e6 != api.OK && len(names) > 0 {
		t.Errorf("R2: %v, %v, %v, %v, %v, %v, %v", c, is, way, has, isToo, m, names)
	}
	return []api.Errno{e1, e2, e3, e4, e5, e6}
}

// The error of CheckAll comes first, then that of indices, or of what is to be kept: ErrLimit, then ErrNone.
func TestErrorsOfLists(t *testing.T) {
	good := five()
	wrong := five()
	wrong[2].Name = "b"
	read := five()
	read[4].Regs = []uint8{1}
	read[4].Blocks[0].Ins = []api.Ins{put(0)}
	var long []api.Flow
	for i := range 61 {
		long = append(long, calling(string([]byte{'a', byte('!' + i)})))
	}
	all := func(e api.Errno) []api.Errno { return slices.Repeat([]api.Errno{e}, 6) }
	most := slices.Repeat([]string{"a", "b", "e"}, 20)
	for i, x := range []struct {
		l    []api.Flow
		a, b int
		keep []string
		want []api.Errno
	}{
		{good, 0, 4, []string{"a", "e"}, all(api.OK)},
		{good, 0, 4, most, all(api.OK)},
		{good, 5, 0, append(slices.Clone(most), "a"), []api.Errno{0, 0, api.ErrArg, api.ErrArg, api.ErrLimit, api.ErrLimit}},
		{good, 0, 5, append(slices.Clone(most), "none"), []api.Errno{0, 0, api.ErrArg, api.ErrArg, api.ErrLimit, api.ErrLimit}},
		{good, -1, 0, []string{"a", "none"}, []api.Errno{0, 0, api.ErrArg, api.ErrArg, api.ErrNone, api.ErrNone}},
		{good, 0, -1 << 63, []string{"", "a"}, []api.Errno{0, 0, api.ErrArg, api.ErrArg, api.ErrNone, api.ErrNone}},
		{good, 1 << 62, 1 << 62, []string{"aa"}, []api.Errno{0, 0, api.ErrArg, api.ErrArg, api.ErrNone, api.ErrNone}},
		{wrong, 9, 9, []string{"none"}, all(api.ErrArg)},
		{[]api.Flow{good[1], good[0]}, 9, 9, []string{"none"}, all(api.ErrArg)},
		{read, 9, 9, slices.Repeat([]string{"none"}, 61), all(api.ErrRead)},
		{append(five(), api.Flow{Name: "z"}), 9, 9, slices.Repeat([]string{"none"}, 61), all(api.ErrFlow)},
		{good[1:], 9, 9, slices.Repeat([]string{"none"}, 61), all(api.ErrCall)},
		{long, 99, 99, []string{"none"}, all(api.ErrLimit)},
		{long[:60], 59, 0, []string{long[59].Name}, all(api.OK)},
	} {
		if got := listErrors(t, x.l, x.a, x.b, x.keep); !slices.Equal(got, x.want) {
			_, e := flow.CheckAll(x.l)
			t.Errorf("%d: %v, not %v (%d)", i, got, x.want, e)
		}
	}
}
