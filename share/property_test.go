package share_test

import (
	"math/rand/v2"
	"slices"
	"testing"

	"argus/api"
	"argus/flow"
	"argus/sample"
	"argus/share"
)

// P13.1: Calls and Shape are as a second way has them: two flows have one shape exactly if the texts are the same.
func TestShapesByChance(t *testing.T) {
	t.Parallel()
	seen := map[bool]int{}
	calls := 0
	lists(t, 1, 800, func(r *rand.Rand, l []api.Flow) {
		shapes := make([]string, len(l))
		for i, f := range l {
			names := must[[]string](t, l)(share.Calls(f))
			if !slices.Equal(names, plainCalls(f)) {
				t.Fatalf("M1: %v of %+v", names, f)
			}
			calls += len(names)
			shapes[i] = must[string](t, l)(share.Shape(f))
			g, e := flow.Read(shapes[i])
			isName := func(name string) bool { return name == "_" }
			if e != api.OK || g.Name != "_" || len(plainCalls(g)) != len(names) || slices.ContainsFunc(plainCalls(g), func(s string) bool { return !isName(s) }) || !plainShape(f, g) {
				t.Fatalf("M1: %d, %q of %+v", e, shapes[i], f)
			}
			for j := range i {
				is := plainShape(l[i], l[j])
				if is != (shapes[i] == shapes[j]) {
					t.Fatalf("M1: %v: %q and %q", is, shapes[i], shapes[j])
				}
				seen[is]++
			}
		}
	})
	if seen[true] < 5000 || seen[false] < 5000 || calls < 5000 {
		t.Errorf("%v, %d", seen, calls)
	}
}

// P13.1, P13.2: Classes are as a second way has them, and are accepted; of other lists those are that are closed, and each class of
// these is within one.
func TestClassesByChance(t *testing.T) {
	t.Parallel()
	seen := map[bool]int{}
	merged, apart := 0, 0
	lists(t, 2, 1200, func(r *rand.Rand, l []api.Flow) {
		p := newPlain(l)
		c := must[[][]int](t, l)(share.Classes(l))
		if !same(c, p.classes()) {
			t.Fatalf("M2: %v, not %v: %+v", c, p.classes(), l)
		}
		merged += len(l) - len(c)
		for a := range l {
			for b := range l {
				if p.shape[a][b] && !p.alike[a][b] {
					apart++
				}
			}
		}
		if is := must[bool](t, l)(share.CheckClasses(l, c)); !is {
			t.Fatalf("P13.2: %v: %+v", c, l)
		}
		var single [][]int
		for i := range l {
			single = append(single, []int{i})
		}
		for i := range 20 {
			other := otherClasses(r, sample.Pick(r, c, single), len(l))
			if i == 0 {
				other = single
			}
			is := must[bool](t, l)(share.CheckClasses(l, other))
			if is != p.isClosed(other) {
				t.Fatalf("M2: %v: %v: %+v", is, other, l)
			}
			if is && !isFiner(other, c) {
				t.Fatalf("P13.2: %v is not within %v: %+v", other, c, l)
			}
			seen[is]++
		}
	})
	if seen[true] < 3000 || seen[false] < 10000 || merged < 1500 || apart < 3000 {
		t.Errorf("%v, %d, %d", seen, merged, apart)
	}
}

// isFiner reports whether each class of a partition is within one of another one.
func isFiner(c, d [][]int) bool {
	for _, class := range c {
		for _, i := range class {
			if classWith(d, i) != classWith(d, class[0]) {
				return false
			}
		}
	}
	return true
}

// P13.1, P13.3: Apart finds the least of the shortest ways, which CheckApart accepts, and none for two that are alike; of other
// ways those are accepted that tell two apart.
func TestWaysByChance(t *testing.T) {
	t.Parallel()
	seen, lengths := map[bool]int{}, map[int]int{}
	lists(t, 3, 900, func(r *rand.Rand, l []api.Flow) {
		p := newPlain(l)
		ways := p.apart()
		for range 2 * len(l) {
			a, b := r.IntN(len(l)), r.IntN(len(l))
			way, is, e := share.Apart(l, a, b)
			want, has := ways[[2]int{a, b}]
			if e != api.OK || is != has || !slices.Equal(way, want) || is == p.alike[a][b] {
				t.Fatalf("M3: %v, %v, %d, not %v: %d and %d of %+v", way, is, e, want, a, b, l)
			}
			lengths[len(way)]++
			tries := [][]int{way, append(slices.Clone(way), 0), way[:len(way)/2], otherWay(r, way), otherWay(r, way)}
			for i, other := range tries {
				is := must[bool](t, l)(share.CheckApart(l, a, b, other))
				if is != p.tells(a, b, other) || i == 0 && is != has || is && p.alike[a][b] {
					t.Fatalf("M3: %v: %v: %d and %d of %+v", is, other, a, b, l)
				}
				seen[is]++
			}
		}
	})
	if seen[true] < 10000 || seen[false] < 30000 || lengths[1] < 300 || lengths[2] < 100 || lengths[3] < 30 {
		t.Errorf("%v, %v", seen, lengths)
	}
}

// otherWay returns another list of numbers.
func otherWay(r *rand.Rand, way []int) []int {
	way = slices.Clone(way)
	for range 1 + r.IntN(3) {
		switch place := sample.Pick(r, r.IntN(3), r.IntN(3), r.IntN(3), -1, 3, 1<<62, -1<<63); {
		case len(way) == 0 || r.IntN(3) == 0:
			way = slices.Insert(way, r.IntN(len(way)+1), place)
		default:
			way[r.IntN(len(way))] = place
		}
	}
	return way
}

// P13.1, P13.5: Merge and Names are as a second way has them. Merged again it is the same; no two in it are alike but such as are kept.
func TestMergeByChance(t *testing.T) {
	t.Parallel()
	gone, kept := 0, 0
	lists(t, 4, 1000, func(r *rand.Rand, l []api.Flow) {
		p := newPlain(l)
		for range 3 {
			keep := someKeep(r, l)
			m := must[[]api.Flow](t, l)(share.Merge(l, keep))
			if want := p.merge(keep); !same(m, want) {
				t.Fatalf("M4: %+v, not %+v: %q of %+v", m, want, keep, l)
			}
			if names := must[[]string](t, l)(share.Names(l, keep)); !slices.Equal(names, p.names(keep)) {
				t.Fatalf("M4: %q, not %q: %q of %+v", names, p.names(keep), keep, l)
			}
			if i, e := flow.CheckAll(m); e != api.OK || len(m) > len(l) {
				t.Fatalf("P13.4: %d, %d: %q of %+v", i, e, keep, l)
			}
			if again := must[[]api.Flow](t, m)(share.Merge(m, keep)); !same(again, m) {
				t.Fatalf("P13.5: %+v, not %+v: %q of %+v", again, m, keep, l)
			}
			gone += len(l) - len(m)
			for _, class := range must[[][]int](t, m)(share.Classes(m)) {
				for _, i := range class {
					if len(class) > 1 && !slices.Contains(keep, m[i].Name) {
						t.Fatalf("P13.5: %q: %q of %+v", m[i].Name, keep, l)
					}
				}
				kept += len(class) - 1
			}
		}
	})
	if gone < 3000 || kept < 1000 {
		t.Errorf("only %d, %d", gone, kept)
	}
}

// starts returns the procedures with which a run can begin.
func starts(l []api.Flow) []api.Flow {
	isNone := func(f api.Flow) bool {
		isNoWord := func(kind uint8) bool { return kind != api.RegWord }
		return f.Iter || f.Result > api.RegWord || slices.ContainsFunc(f.Regs[:f.Args], isNoWord)
	}
	return slices.DeleteFunc(slices.Clone(l), isNone)
}

// P13.4, T4: a run of what was merged is that of the list, steps included.
func TestRunsByChance(t *testing.T) {
	t.Parallel()
	seen := map[uint8]int{}
	lists(t, 5, 3000, func(r *rand.Rand, l []api.Flow) {
		for _, f := range starts(l) {
			keep := append(someKeep(r, l), f.Name)
			keep = keep[max(0, len(keep)-api.MaxFlows):]
			m := must[[]api.Flow](t, l)(share.Merge(l, keep))
			var args []int
			for range f.Args {
				args = append(args, sample.Pick(r, r.IntN(5)-1, r.IntN(100), api.MaxInt, -api.MaxInt))
			}
			steps := sample.Pick(r, r.IntN(40), 300, 3000)
			x, e := flow.Run(l, f.Name, args, steps)
			y, g := flow.Run(m, f.Name, args, steps)
			if e != g || e != api.OK && e != api.ErrStuck || !same(x, y) {
				t.Fatalf("P13.4: %v, %d, not %v, %d: %q %v, %d steps, keep %q of %+v", y, g, x, e, f.Name, args, steps, keep, l)
			}
			if len(m) < len(l) {
				seen[x.Kind]++
			}
		}
	})
	if seen[api.RanDone] < 2000 || seen[api.RanSignal] < 500 || seen[api.RanSpent] < 1000 {
		t.Errorf("%v", seen)
	}
}

// P13.6: with other Names, in the same order, the classes are the same; so are shapes, ways, and what is left.
func TestOtherNames(t *testing.T) {
	t.Parallel()
	lists(t, 6, 800, func(r *rand.Rand, l []api.Flow) {
		names := someNames(r, len(l))
		turn := func(name string) string {
			return names[slices.IndexFunc(l, func(f api.Flow) bool { return f.Name == name })]
		}
		other := renamed(l, turn)
		c, d := must[[][]int](t, l)(share.Classes(l)), must[[][]int](t, other)(share.Classes(other))
		if !same(c, d) {
			t.Fatalf("P13.6: %v, not %v: %+v", d, c, l)
		}
		for i := range l {
			if a, b := must[string](t, l)(share.Shape(l[i])), must[string](t, l)(share.Shape(other[i])); a != b {
				t.Fatalf("M1: %q, not %q", b, a)
			}
			j := r.IntN(len(l))
			one, is, _ := share.Apart(l, i, j)
			two, isToo, _ := share.Apart(other, i, j)
			if is != isToo || !slices.Equal(one, two) {
				t.Fatalf("M3: %v, not %v: %+v", two, one, l)
			}
		}
		keep := someKeep(r, l)
		kept := slices.Clone(keep)
		for i := range kept {
			kept[i] = turn(kept[i])
		}
		m := must[[]api.Flow](t, other)(share.Merge(other, kept))
		if want := renamed(must[[]api.Flow](t, l)(share.Merge(l, keep)), turn); !same(m, want) {
			t.Fatalf("M4: %+v, not %+v: %+v", m, want, l)
		}
	})
}

// renamed returns a list with other Names.
func renamed(l []api.Flow, turn func(name string) string) []api.Flow {
	l = copied(l)
	for i := range l {
		l[i].Name = turn(l[i].Name)
		for _, name := range callsOf(&l[i]) {
			*name = turn(*name)
		}
	}
	return l
}

// each gives all lists of n procedures, each of which has one of two shapes, and calls any that there are so many times.
func each(n, calls int, do func(l []api.Flow)) {
	most := 2
	for range calls {
		most *= n
	}
	chosen := make([]int, n)
	for {
		var l []api.Flow
		for i, x := range chosen {
			var names []string
			for range calls {
				names = append(names, string(rune('a'+x%n)))
				x /= n
			}
			f := calling(string(rune('a'+i)), names...)
			f.Slots = slices.Repeat([]uint8{1}, x)
			l = append(l, f)
		}
		do(l)
		i := 0
		for ; i < n; i++ {
			if chosen[i]++; chosen[i] < most {
				break
			}
			chosen[i] = 0
		}
		if i == n {
			return
		}
	}
}

// P13.1 to P13.3: all lists of a few procedures, with all partitions, and with all ways that may be the shortest ones.
func TestAllSmallLists(t *testing.T) {
	t.Parallel()
	for _, x := range []struct{ n, calls int }{{1, 1}, {2, 1}, {2, 2}, {3, 1}, {3, 2}, {4, 1}} {
		each(x.n, x.calls, func(l []api.Flow) {
			p := newPlain(l)
			c := must[[][]int](t, l)(share.Classes(l))
			if !p.isClosed(c) {
				t.Fatalf("M2: %v: %+v", c, l)
			}
			partitions(x.n, func(d [][]int) {
				is := must[bool](t, l)(share.CheckClasses(l, d))
				if is != p.isClosed(d) || is && !isFiner(d, c) {
					t.Fatalf("P13.2: %v: %v, %v: %+v", is, d, c, l)
				}
			})
			for a := range l {
				for b := range l {
					way, is, _ := share.Apart(l, a, b)
					want, has := firstWay(p, a, b, x.calls, x.n)
					if is != has || !slices.Equal(way, want) || is == (classWith(c, a) == classWith(c, b)) {
						t.Fatalf("M3: %v, %v, not %v: %d and %d of %+v", way, is, want, a, b, l)
					}
				}
			}
		})
	}
}

// firstWay tries all ways, the shorter ones first, and of several the least ones.
func firstWay(p *plain, a, b, calls, most int) ([]int, bool) {
	ways := [][]int{{}}
	for range most + 1 {
		var longer [][]int
		for _, way := range ways {
			if p.tells(a, b, way) {
				return way, true
			}
			for place := range calls {
				longer = append(longer, append(slices.Clone(way), place))
			}
		}
		ways = longer
	}
	return nil, false
}
