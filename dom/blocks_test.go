package dom_test

import (
	"slices"
	"testing"

	"argus/api"
	"argus/dom"
)

// ofWays returns a flow in which all ends are those of try instructions, with handlers for what is not To.
func ofWays(ways ...[]int) api.Flow {
	f := api.Flow{Name: "p", Args: 1, Regs: []uint8{1}}
	names := []string{"a", "b", "c", "d", "e", "f", "g"}
	for _, l := range ways {
		e := ret(-1)
		if len(l) > 0 {
			e = try(api.Ins{Op: api.TryAdd}, l[0])
		}
		for i := 1; i < len(l); i++ {
			e = caught(e, names[i-1], l[i])
		}
		f.Blocks = append(f.Blocks, block(e))
	}
	return f
}

// graphs are flows with what J1, J2, J4 and J5 say of them.
var graphs = []struct {
	name     string
	ways     [][]int
	order    []int
	parent   []int
	frontier [][]int
	loops    []api.Loop
	circles  bool // it is not reducible
}{
	{name: "one block", ways: [][]int{{}}, order: []int{0}, parent: []int{-1}, frontier: [][]int{{}}},
	{name: "one block in a circle", ways: [][]int{{0}}, order: []int{0}, parent: []int{-1}, frontier: [][]int{{0}}, loops: []api.Loop{{Head: 0, Body: []int{0}}}},
	{name: "back to the first block", ways: [][]int{{1}, {0, 2}, {}}, order: []int{0, 1, 2}, parent: []int{-1, 0, 1}, frontier: [][]int{{0}, {0}, {}}, loops: []api.Loop{{Head: 0, Body: []int{0, 1}}}},
	{name: "two ways that meet", ways: [][]int{{1, 2}, {3}, {3}, {}}, order: []int{0, 2, 1, 3}, parent: []int{-1, 0, 0, 0}, frontier: [][]int{{}, {3}, {3}, {}}},
	{name: "the lesser block first, whatever To is", ways: [][]int{{2, 1}, {3}, {3}, {}}, order: []int{0, 2, 1, 3}, parent: []int{-1, 0, 0, 0}, frontier: [][]int{{}, {3}, {3}, {}}},
	{name: "a block visited by another way", ways: [][]int{{1, 3}, {2}, {3}, {}}, order: []int{0, 1, 2, 3}, parent: []int{-1, 0, 1, 0}, frontier: [][]int{{}, {3}, {3}, {}}},
	{name: "blocks that do not count", ways: [][]int{{2}, {2, 1}, {}, {4}, {3, 2}}, order: []int{0, 2}, parent: []int{-1, -1, 0, -1, -1}, frontier: make([][]int, 5)},
	{name: "one ahead of a loop that does not count", ways: [][]int{{2}, {3}, {3}, {2, 4}, {}}, order: []int{0, 2, 3, 4}, parent: []int{-1, -1, 0, 2, 3}, frontier: [][]int{{}, {}, {2}, {2}, {}}, loops: []api.Loop{{Head: 2, Body: []int{2, 3}}}},
	{name: "a circle with two ways in", ways: [][]int{{1, 2}, {2}, {1}}, order: []int{0, 1, 2}, parent: []int{-1, 0, 0}, frontier: [][]int{{}, {2}, {1}}, circles: true},
	{name: "such a circle that does not count", ways: [][]int{{}, {2, 3}, {3}, {2, 0}}, order: []int{0}, parent: []int{-1, -1, -1, -1}, frontier: make([][]int, 4)},
	{name: "two loops with one head are one", ways: [][]int{{1}, {2, 3, 4}, {1}, {1}, {}}, order: []int{0, 1, 4, 3, 2}, parent: []int{-1, 0, 1, 1, 1}, frontier: [][]int{{}, {1}, {1}, {1}, {}}, loops: []api.Loop{{Head: 1, Body: []int{1, 2, 3}}}},
	{name: "a loop in another one", ways: [][]int{{1}, {2, 5}, {3}, {2, 4}, {1}, {}}, order: []int{0, 1, 5, 2, 3, 4}, parent: []int{-1, 0, 1, 2, 3, 1}, frontier: [][]int{{}, {1}, {1, 2}, {1, 2}, {1}, {}}, loops: []api.Loop{{Head: 1, Body: []int{1, 2, 3, 4}}, {Head: 2, Body: []int{2, 3}}}},
	{name: "a loop with a block of its own", ways: [][]int{{1}, {1, 2}, {}}, order: []int{0, 1, 2}, parent: []int{-1, 0, 1}, frontier: [][]int{{}, {1}, {}}, loops: []api.Loop{{Head: 1, Body: []int{1}}}},
	{name: "a circle with two ways in, in a loop", ways: [][]int{{1}, {2, 3}, {3}, {2, 4}, {1}}, order: []int{0, 1, 2, 3, 4}, parent: []int{-1, 0, 1, 1, 3}, frontier: [][]int{{}, {1}, {3}, {1, 2}, {1}}, loops: []api.Loop{{Head: 1, Body: []int{1, 2, 3, 4}}}, circles: true},
	{name: "parents further up", ways: [][]int{{1, 4}, {2, 3}, {4}, {5}, {3}, {}}, order: []int{0, 1, 2, 4, 3, 5}, parent: []int{-1, 0, 1, 0, 0, 3}, frontier: [][]int{{}, {3, 4}, {4}, {}, {3}, {}}},
}

// J1, J2, J4, J5: graphs with a name.
func TestGraphs(t *testing.T) {
	for _, g := range graphs {
		f := ofWays(g.ways...)
		if l := must[[]int](t, f)(dom.Order(f)); !slices.Equal(l, g.order) {
			t.Errorf("J1: %s: %v", g.name, l)
		}
		for b, is := range must[[]bool](t, f)(dom.Reach(f)) {
			if is != slices.Contains(g.order, b) {
				t.Errorf("J1: %s: %d: %v", g.name, b, is)
			}
		}
		if l := parents(t, f); !slices.Equal(l, g.parent) {
			t.Errorf("J2: %s: %v", g.name, l)
		}
		if l := must[[][]int](t, f)(dom.Frontier(f)); !same(l, g.frontier) {
			t.Errorf("J4: %s: %v", g.name, l)
		}
		if l := must[[]api.Loop](t, f)(dom.Loops(f)); !same(l, g.loops) {
			t.Errorf("J5: %s: %v", g.name, l)
		}
		if is := must[bool](t, f)(dom.Reducible(f)); is == g.circles {
			t.Errorf("J5: %s: %v", g.name, is)
		}
		d := must[api.Doms](t, f)(dom.Prove(f))
		if is := must[bool](t, f)(dom.CheckProof(f, d)); !is {
			t.Errorf("J3: %s: %v", g.name, d)
		}
		askBlocks(t, plainOf(t, f))
	}
}

// J2: Dominates of blocks that do not count, and that there are not.
func TestDominates(t *testing.T) {
	f := ofWays([]int{2}, []int{2}, []int{3}, []int{})
	for _, x := range []struct {
		a, b int
		is   bool
		want api.Errno
	}{
		{0, 0, true, 0}, {0, 3, true, 0}, {2, 3, true, 0}, {2, 2, true, 0}, {3, 2, false, 0}, {2, 0, false, 0},
		{1, 1, false, 0}, {1, 2, false, 0}, {0, 1, false, 0}, {1, 0, false, 0},
		{-1, 0, false, api.ErrArg}, {0, -1, false, api.ErrArg}, {4, 0, false, api.ErrArg}, {0, 4, false, api.ErrArg},
		{1, 4, false, api.ErrArg}, {-1, 1, false, api.ErrArg}, {-1 << 63, 1 << 62, false, api.ErrArg},
	} {
		if is, e := dom.Dominates(f, x.a, x.b); is != x.is || e != x.want {
			t.Errorf("J2: %v: %v, %d", x, is, e)
		}
	}
	f.Args = 7
	if is, e := dom.Dominates(f, 9, 9); is || e != api.ErrFlow {
		t.Errorf("J2: %v, %d", is, e)
	}
}

// diamond is 0 to 1 and 2, which go to 3, which goes to 4; 5 does not count.
func diamond() api.Flow {
	return ofWays([]int{1, 2}, []int{3}, []int{3}, []int{4}, []int{}, []int{3})
}

func proofOfDiamond() api.Doms {
	return api.Doms{
		Parent: []int{-1, 0, 0, 0, 3, -1},
		One:    [][]int{{}, {0, 1}, {0, 2}, {0, 1, 3}, {3, 4}, {}},
		Two:    [][]int{{}, {0, 1}, {0, 2}, {0, 2, 3}, {3, 4}, {}},
	}
}

// J3: each sentence of what a proof is.
func TestProofs(t *testing.T) {
	f := diamond()
	for name, change := range map[string]func(d *api.Doms){
		"+as it is":               func(d *api.Doms) {},
		"+the ways the other way": func(d *api.Doms) { d.One, d.Two = d.Two, d.One },
		"no lists":                func(d *api.Doms) { *d = api.Doms{} },
		"no One":                  func(d *api.Doms) { d.One = nil },
		"no Two":                  func(d *api.Doms) { d.Two = nil },
		"no Parent":               func(d *api.Doms) { d.Parent = nil },
		"more parents":            func(d *api.Doms) { d.Parent = append(d.Parent, -1) },
		"more ways":               func(d *api.Doms) { d.One, d.Two = append(d.One, nil), append(d.Two, nil) },
		"more of all": func(d *api.Doms) {
			d.Parent, d.One, d.Two = append(d.Parent, -1), append(d.One, nil), append(d.Two, nil)
		},
		"a parent of 0":              func(d *api.Doms) { d.Parent[0] = 0 },
		"a parent of 0 below it":     func(d *api.Doms) { d.Parent[0] = 4 },
		"a parent below -1":          func(d *api.Doms) { d.Parent[5] = -2 },
		"a parent that there is not": func(d *api.Doms) { d.Parent[4] = 6 },
		"a parent far away":          func(d *api.Doms) { d.Parent[4] = -1 << 63 },
		"parents in a circle":        func(d *api.Doms) { d.Parent[3] = 4 },
		"a block as its own parent":  func(d *api.Doms) { d.Parent[4] = 4 },
		"a parent that is out":       func(d *api.Doms) { d.Parent[4] = 5 },
		"out behind one that is not": func(d *api.Doms) { d.Parent[4], d.One[4], d.Two[4] = -1, nil, nil },
		"out, but with ways":         func(d *api.Doms) { d.One[5], d.Two[5] = []int{5, 3}, []int{5, 3} },
		"out, with a block":          func(d *api.Doms) { d.Two[5] = []int{5} },
		"0 with ways":                func(d *api.Doms) { d.One[0] = []int{0} },
		"not out, and does not count": func(d *api.Doms) {
			d.Parent[5], d.One[5], d.Two[5] = 0, []int{0, 5}, []int{0, 5}
		},
		"a parent that is passed by": func(d *api.Doms) { d.Parent[3], d.One[3], d.Two[3] = 1, []int{1, 3}, []int{1, 3} },
		"a parent too far up":        func(d *api.Doms) { d.Parent[4], d.One[4], d.Two[4] = 0, []int{0, 1, 3, 4}, []int{0, 2, 3, 4} },
		"one way twice":              func(d *api.Doms) { d.Two[3] = []int{0, 1, 3} },
		"a way missing":              func(d *api.Doms) { d.One[3] = nil },
		"another way missing":        func(d *api.Doms) { d.Two[4] = []int{} },
		"a way of one block":         func(d *api.Doms) { d.One[4] = []int{4} },
		"a way of the parent":        func(d *api.Doms) { d.One[4] = []int{3} },
		"a way that ends early":      func(d *api.Doms) { d.One[3] = []int{0, 1} },
		"a way that begins late":     func(d *api.Doms) { d.Two[3] = []int{2, 3} },
		"a way that begins early":    func(d *api.Doms) { d.Two[4] = []int{2, 3, 4} },
		"a way that goes on":         func(d *api.Doms) { d.Two[3] = []int{0, 2, 3, 4} },
		"a way with a leap":          func(d *api.Doms) { d.Two[3] = []int{0, 3} },
		"a way with no block":        func(d *api.Doms) { d.Two[3] = []int{0, 6, 3} },
		"a way with a number far":    func(d *api.Doms) { d.Two[3] = []int{0, 1 << 62, 3} },
		"a way with one below 0":     func(d *api.Doms) { d.One[3] = []int{0, -1, 3} },
		"a way over what is out":     func(d *api.Doms) { d.One[3] = []int{0, 5, 3} },
	} {
		d := proofOfDiamond()
		change(&d)
		if is, e := dom.CheckProof(f, d); is != (name[0] == '+') || e != api.OK {
			t.Errorf("J3: %s: %v, %d", name, is, e)
		}
	}
}

// J3: the block 0 has no parent, even if the parents would lead back to it.
func TestProofWithoutStart(t *testing.T) {
	f := ofWays([]int{1}, []int{2}, []int{0})
	d := api.Doms{Parent: []int{2, 0, 1}, One: [][]int{{2, 0}, {0, 1}, {1, 2}}, Two: [][]int{{2, 0}, {0, 1}, {1, 2}}}
	if is, e := dom.CheckProof(f, d); is || e != api.OK {
		t.Errorf("J3: %v, %d", is, e)
	}
	d.Parent[0], d.One[0], d.Two[0] = -1, nil, nil
	if is, e := dom.CheckProof(f, d); !is || e != api.OK {
		t.Errorf("J3: %v, %d", is, e)
	}
}

// J3: ways may not have a block twice, nor another one in common, and may be longer than needed.
func TestWaysOfProofs(t *testing.T) {
	// 0 goes to 1 and 2; 1 and 2 to each other, and to 3.
	f := ofWays([]int{1, 2}, []int{2, 3, 1}, []int{1, 3}, []int{})
	d := api.Doms{Parent: []int{-1, 0, 0, 0}, One: [][]int{{}, {0, 1}, {0, 2}, {0, 1, 3}}, Two: [][]int{{}, {0, 1}, {0, 2}, {0, 2, 3}}}
	for _, x := range []struct {
		block    int
		one, two []int
		want     bool
	}{
		{3, []int{0, 1, 3}, []int{0, 2, 3}, true},
		{3, []int{0, 2, 3}, []int{0, 1, 3}, true},
		{1, []int{0, 2, 1}, []int{0, 1}, true},
		{1, []int{0, 2, 1}, []int{0, 2, 1}, false},
		{1, []int{0, 1, 1}, []int{0, 1}, false},
		{1, []int{0, 1, 2, 1}, []int{0, 1}, false},
		{3, []int{0, 1, 2, 3}, []int{0, 2, 3}, false},
		{3, []int{0, 1, 2, 3}, []int{0, 2, 1, 3}, false},
		{3, []int{0, 1, 1, 3}, []int{0, 2, 3}, false},
		{3, []int{0, 1, 3}, []int{0, 2, 1, 2, 3}, false},
	} {
		p := copied(d)
		p.One[x.block], p.Two[x.block] = x.one, x.two
		if is, e := dom.CheckProof(f, p); is != x.want || e != api.OK {
			t.Errorf("J3: %v: %v, %d", x, is, e)
		}
	}
}

// J3: two ways for which a first one that is shortest has to be given up in part.
func TestWaysThatCross(t *testing.T) {
	// The shortest way is 0, 1, 2, 7; the two ways are 0, 1, 4, 5, 7 and 0, 3, 6, 2, 7.
	f := ofWays([]int{1, 3}, []int{2, 4}, []int{7}, []int{6}, []int{5}, []int{7}, []int{2}, []int{})
	d := must[api.Doms](t, f)(dom.Prove(f))
	want := [][]int{{0, 1, 4, 5, 7}, {0, 3, 6, 2, 7}}
	got := [][]int{d.One[7], d.Two[7]}
	slices.SortFunc(got, slices.Compare)
	if !same(got, want) || d.Parent[7] != 0 {
		t.Errorf("J3: %v", got)
	}
}
