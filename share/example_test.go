package share_test

import (
	"slices"
	"testing"

	"argus/api"
	"argus/share"
)

// five is the chapter's list: a and b call each other, c calls d, and e calls c.
func five() []api.Flow {
	return []api.Flow{calling("a", "b"), calling("b", "a"), calling("c", "d"), calling("d"), calling("e", "c")}
}

func TestExamplesOfShapes(t *testing.T) {
	l := five()
	if names, e := share.Calls(l[0]); e != api.OK || !slices.Equal(names, []string{"b"}) {
		t.Errorf("M1: %v, %d", names, e)
	}
	a, e := share.Shape(l[0])
	c, g := share.Shape(l[2])
	if e != api.OK || g != api.OK || a != c {
		t.Errorf("M1: %d, %q; %d, %q", e, a, g, c)
	}
	if want := "flow _ proc 0 0\nregs\nslots\nsignals\nblock\nend 6 -1 0 1 0 -1\nname _\nblock\nend 3 -1 0 0 0 -1\n"; a != want {
		t.Errorf("M1: %q, not %q", a, want)
	}
	if d, e := share.Shape(l[3]); e != api.OK || d == a {
		t.Errorf("M1: %d, %q", e, d)
	}
}

func TestExamplesOfClasses(t *testing.T) {
	l := five()
	if c, e := share.Classes(l); e != api.OK || !same(c, [][]int{{0, 1}, {2}, {3}, {4}}) {
		t.Errorf("M2: %v, %d", c, e)
	}
	for _, x := range []struct {
		c    [][]int
		want bool
	}{
		{[][]int{{0}, {1}, {2}, {3}, {4}}, true},
		{[][]int{{0, 1}, {2}, {3}, {4}}, true},
		{[][]int{{0, 1, 2}, {3}, {4}}, false},
	} {
		if is, e := share.CheckClasses(l, x.c); e != api.OK || is != x.want {
			t.Errorf("M2: %v: %v, %d", x.c, is, e)
		}
	}
}

func TestExamplesOfWays(t *testing.T) {
	l := five()
	for _, x := range []struct {
		a, b int
		way  []int
		is   bool
	}{{0, 2, []int{0}, true}, {0, 4, []int{0, 0}, true}, {0, 1, nil, false}, {3, 0, nil, true}} {
		way, is, e := share.Apart(l, x.a, x.b)
		if e != api.OK || is != x.is || !slices.Equal(way, x.way) {
			t.Errorf("M3: %d, %d: %v, %v, %d", x.a, x.b, way, is, e)
		}
		if is, e := share.CheckApart(l, x.a, x.b, x.way); e != api.OK || is != x.is {
			t.Errorf("M3: %d, %d: %v: %v, %d", x.a, x.b, x.way, is, e)
		}
	}
}

func TestExamplesOfMerge(t *testing.T) {
	l := five()
	want := []api.Flow{calling("a", "a"), calling("c", "d"), calling("d"), calling("e", "c")}
	if m, e := share.Merge(l, []string{"e"}); e != api.OK || !same(m, want) {
		t.Errorf("M4: %+v, %d", m, e)
	}
	if names, e := share.Names(l, []string{"b"}); e != api.OK || !slices.Equal(names, []string{"b", "b", "c", "d", "e"}) {
		t.Errorf("M4: %v, %d", names, e)
	}
	want = []api.Flow{calling("b", "b"), calling("c", "d"), calling("d"), calling("e", "c")}
	if m, e := share.Merge(l, []string{"b"}); e != api.OK || !same(m, want) {
		t.Errorf("M4: %+v, %d", m, e)
	}
}
