package share_test

import (
	"math/rand/v2"
	"slices"
	"testing"

	"argus/api"
	"argus/share"
)

// nameOf returns the Name of one of as many flows as there may be.
func nameOf(i int) string { return string([]byte{'f', byte('!' + i)}) }

// most returns as many flows as there may be, each of which calls some others.
func most(calls func(i int) []int) []api.Flow {
	var l []api.Flow
	for i := range api.MaxFlows {
		var names []string
		for _, to := range calls(i) {
			names = append(names, nameOf(to))
		}
		l = append(l, calling(nameOf(i), names...))
	}
	return l
}

// A row of flows, each of which calls the next one: they are told apart at its end alone.
func TestLongestRow(t *testing.T) {
	t.Parallel()
	const last = api.MaxFlows - 1
	for _, isUp := range []bool{true, false} {
		at := func(i int) int {
			if isUp {
				return i
			}
			return last - i
		}
		l := most(func(i int) []int {
			if at(i) == last {
				return nil
			}
			return []int{at(at(i) + 1)}
		})
		if c := must[[][]int](t, l)(share.Classes(l)); len(c) != api.MaxFlows {
			t.Errorf("M2: %v", c)
		}
		for i := range last {
			way, is, e := share.Apart(l, at(0), at(i+1))
			if want := make([]int, last-1-i); e != api.OK || !is || !slices.Equal(way, want) {
				t.Fatalf("M3: %d: %v, %v, %d", i, way, is, e)
			}
			if is := must[bool](t, l)(share.CheckApart(l, at(0), at(i+1), way)); !is {
				t.Errorf("P13.3: %d: %v", i, way)
			}
		}
		if m := must[[]api.Flow](t, l)(share.Merge(l, nil)); !same(m, l) {
			t.Errorf("M4: %+v", m)
		}
	}
}

// Two circles of flows with numbers that have no common divisor: all are alike, though each pair leads to all others. If one flow of each is another one, all are apart.
func TestLongestCircles(t *testing.T) {
	t.Parallel()
	const one = 29
	next := func(i int) int {
		switch i {
		case one - 1:
			return 0
		case api.MaxFlows - 1:
			return one
		}
		return i + 1
	}
	l := most(func(i int) []int { return []int{next(i)} })
	c := must[[][]int](t, l)(share.Classes(l))
	if len(c) != 1 || len(c[0]) != api.MaxFlows {
		t.Errorf("M2: %v", c)
	}
	if way, is, e := share.Apart(l, 0, one); e != api.OK || is || len(way) > 0 {
		t.Errorf("M3: %v, %v, %d", way, is, e)
	}
	if m := must[[]api.Flow](t, l)(share.Merge(l, []string{nameOf(40)})); !same(m, []api.Flow{calling(nameOf(40), nameOf(40))}) {
		t.Errorf("M4: %+v", m)
	}
	for _, i := range []int{one - 1, api.MaxFlows - 1} {
		l[i].Slots = []uint8{1}
	}
	p := newPlain(l)
	ways := p.apart()
	longest := 0
	for a := range l {
		for b := range l {
			way, is, e := share.Apart(l, a, b)
			want, has := ways[[2]int{a, b}]
			if e != api.OK || is != has || is != (a != b) || !slices.Equal(way, want) {
				t.Fatalf("M3: %d, %d: %v, %v, %d, not %v", a, b, way, is, e, want)
			}
			longest = max(longest, len(way))
		}
	}
	if longest < one {
		t.Errorf("only %d", longest)
	}
}

// As many calls as a flow may have, most of which lead to what is alike.
func TestMostCalls(t *testing.T) {
	t.Parallel()
	const calls = api.MaxBlocks - 1
	r := rand.New(rand.NewPCG(1, 1))
	l := most(func(i int) []int {
		if i >= api.MaxFlows-2 {
			return nil
		}
		to := make([]int, calls)
		for place := range to {
			to[place] = r.IntN(10)
		}
		to[calls-1] = max(i, 10)
		if i == api.MaxFlows-3 {
			to[calls-1]++
		}
		return to
	})
	l[api.MaxFlows-1].Slots = []uint8{1}
	// All but the last three are alike: each of these calls others that are, but the one whose last call is of another shape.
	var want [][]int
	want = append(want, nil)
	for i := range api.MaxFlows - 3 {
		want[0] = append(want[0], i)
	}
	want = append(want, []int{api.MaxFlows - 3}, []int{api.MaxFlows - 2}, []int{api.MaxFlows - 1})
	c := must[[][]int](t, l)(share.Classes(l))
	if !same(c, want) {
		t.Errorf("M2: %v", c)
	}
	if is := must[bool](t, l)(share.CheckClasses(l, c)); !is {
		t.Errorf("P13.2: %v", c)
	}
	way, is, e := share.Apart(l, 0, api.MaxFlows-3)
	if e != api.OK || !is || !slices.Equal(way, []int{calls - 1}) {
		t.Errorf("M3: %v, %v, %d", way, is, e)
	}
	for _, x := range []struct {
		way  []int
		want bool
	}{{[]int{calls - 1}, true}, {[]int{calls}, false}, {[]int{calls - 2}, false}, {slices.Repeat([]int{calls - 1}, 100000), false}} {
		if is := must[bool](t, l)(share.CheckApart(l, 0, api.MaxFlows-3, x.way)); is != x.want {
			t.Errorf("M3: %v: %v", x.way[0], is)
		}
	}
}

// Ways that are far longer than any that is the shortest.
func TestLongWays(t *testing.T) {
	t.Parallel()
	l := []api.Flow{calling("a", "a", "c"), calling("b", "b", "d"), calling("c"), calling("d", "d")}
	way := make([]int, 1000000)
	if is := must[bool](t, l)(share.CheckApart(l, 0, 1, way)); is {
		t.Error("M3: the end is of one shape")
	}
	way[len(way)-1] = 1
	if is := must[bool](t, l)(share.CheckApart(l, 0, 1, way)); !is {
		t.Error("M3: the end is not of one shape")
	}
	classes := slices.Repeat([][]int{{0, 1, 2, 3}}, 1000000)
	if is := must[bool](t, l)(share.CheckClasses(l, classes)); is {
		t.Error("M2: too many classes")
	}
}

// Flows with as many instructions as there may be, which differ in the last one.
func TestLargestFlows(t *testing.T) {
	t.Parallel()
	large := func(name, other string, n int) api.Flow {
		f := proc(name, "w")
		for b := range api.MaxBlocks - 1 {
			f.Blocks = append(f.Blocks, block(call(other, -1, b+1), slices.Repeat([]api.Ins{number(0, 1)}, api.MaxIns)...))
		}
		f.Blocks = append(f.Blocks, block(ret(-1), slices.Repeat([]api.Ins{number(0, n)}, api.MaxIns)...))
		return f
	}
	l := []api.Flow{large("a", "b", 1), large("b", "a", 1), large("c", "c", 2), large("d", "b", 1)}
	if c := must[[][]int](t, l)(share.Classes(l)); !same(c, [][]int{{0, 1, 3}, {2}}) {
		t.Errorf("M2: %v", c)
	}
	m := must[[]api.Flow](t, l)(share.Merge(l, []string{"d"}))
	if !same(m, []api.Flow{large("c", "c", 2), large("d", "d", 1)}) {
		t.Error("M4: others are left")
	}
	liesApart(t, "the largest flows", m, l)
}
