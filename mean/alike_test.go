package mean_test

import (
	"math/rand/v2"
	"slices"
	"testing"

	"argus/api"
	"argus/mean"
)

func TestAlike(t *testing.T) {
	for _, x := range []struct {
		h, v, g, w string
		want       bool
	}{
		{"", "", "", "", true}, {"array", "", "record 1; record 2", "", true},
		{"", "1", "", "1", true}, {"", "1", "", "2", false}, {"", "1", "", "true", false}, {"", "0", "", "false", false}, {"", "0", "", "nil", false}, {"", "false", "", "nil", false}, {"", "true", "", "true", true}, {"", "true", "", "false", false}, {"", "nil", "", "nil", true},
		{"", "1 2", "", "1 2", true}, {"", "1 2", "", "2 1", false}, {"", "1", "", "1 1", false}, {"", "1 1", "", "1", false}, {"", "", "", "nil", false},
		{"array", "@0", "array", "@0", true}, {"array", "@0", "array", "0", false}, {"array", "@0", "array; array", "@1", true}, {"array", "@0", "array 1", "@0", false}, {"array 1", "@0", "array 1", "@0", true}, {"array 1", "@0", "array 1 1", "@0", false}, {"array 1 2", "@0", "array 1 3", "@0", false},
		{"array 1", "@0", "record 1", "@0", false}, {"record 1", "@0", "oneof0 1", "@0", false}, {"oneof0 1", "@0", "oneof1 1", "@0", false}, {"oneof3 1", "@0", "oneof3 1", "@0", true}, {"oneof3 1", "@0", "oneof3 2", "@0", false},
		{"array", "@0 @0", "array; array", "@0 @1", false}, {"array; array", "@0 @1", "array", "@0 @0", false}, {"array; array", "@0 @1", "array; array", "@1 @0", true}, {"array", "@0 @0", "array; array", "@1 @1", true},
		{"array @1; array 1", "@0", "array 1; array @0", "@1", true}, {"array @1; array 1", "@0", "array 2; array @0", "@1", false}, {"array @1; array 1", "@0 @1", "array 1; array @0", "@1 @0", true}, {"array @1; array 1", "@0 @1", "array 1; array @2; array 1", "@1 @0", false},
		{"array @0", "@0", "array @0", "@0", true}, {"array @0", "@0", "array @1; array @0", "@0", false}, {"array @1; array @0", "@0", "array @0", "@0", false}, {"array @1; array @0", "@0", "array @1; array @0", "@1", true}, {"array @0", "@0", "array @1; array @1", "@0", false},
		{"record @1 @2; array; array", "@0", "record @1 @1; array", "@0", false}, {"record @1 @2; array; array", "@0", "record @2 @1; array; array", "@0", true}, {"record @1 @1; array", "@0", "record @1 @2; array; array", "@0", false},
		{"array @1 @2; array @2; array", "@0", "array @1 @2; array @3; array; array", "@0", false},
		{"array 1; array 5", "@0", "array 6; array 1", "@1", true},
	} {
		if is := areAlike(t, heap(x.h), vals(x.v), heap(x.g), vals(x.w)); is != x.want {
			t.Errorf("F5: Alike of %s in %s and %s in %s: %v", x.v, x.h, x.w, x.g, is)
		}
		if is := areBothWays(heap(x.h), vals(x.v), heap(x.g), vals(x.w)); is != x.want {
			t.Errorf("F5: the second way: %s in %s and %s in %s: %v", x.v, x.h, x.w, x.g, is)
		}
	}
}

func TestReached(t *testing.T) {
	for _, x := range []struct{ h, v, g, w string }{
		{"", "", "", ""}, {"array", "", "", ""}, {"", "1 true nil", "", "1 true nil"}, {"array", "1", "", "1"},
		{"array", "@0", "array", "@0"}, {"array 1; array 2", "@1", "array 2", "@0"}, {"array 1; array 2", "@1 @0", "array 2; array 1", "@0 @1"}, {"array 1; array 2", "@1 @1 5 @0", "array 2; array 1", "@0 @0 5 @1"},
		{"array; record @0", "@1", "record @1; array", "@0"}, {"array; record @0", "@0 @1", "array; record @0", "@0 @1"}, {"array; record @0; array 5", "@1 @2", "record @1; array; array 5", "@0 @2"},
		{"array @0", "@0", "array @0", "@0"}, {"array @1; array @0", "@1", "array @1; array @0", "@0"}, {"array @1; array @1", "@0", "array @1; array @1", "@0"},
		// what stands in an object is met ahead of what stands behind it
		{"array @1 @2; array @3; array 2; array 3", "@0", "array @1 @3; array @2; array 3; array 2", "@0"},
		{"array @1 @2; array @2; array 2", "@0", "array @1 @2; array @2; array 2", "@0"},
		{"array @2 @1; array 1; array @1", "@0", "array @1 @2; array @2; array 1", "@0"},
		{"array 1; array 2; record @0 7 @3 @1; oneof4 @2", "true @3", "oneof4 @1; record @2 7 @0 @3; array 1; array 2", "true @0"},
		{"record @1 @2; array @2; array @1", "@2 @0", "array @1; array @0; record @1 @0", "@0 @2"},
	} {
		g, w, e := mean.Reached(heap(x.h), vals(x.v))
		if showHeap(g) != x.g || showValues(w) != x.w || e != api.OK {
			t.Errorf("F5: Reached of %s in %s: %s in %s, %d, not %s in %s", x.v, x.h, showValues(w), showHeap(g), e, x.w, x.g)
		}
		if g, w := plainReached(heap(x.h), vals(x.v)); showHeap(g) != x.g || showValues(w) != x.w {
			t.Errorf("F5: the second way: %s in %s", showValues(w), showHeap(g))
		}
	}
}

func TestErrorsOfAlike(t *testing.T) {
	h, v := heap("array; array"), vals("@0 1")
	for _, x := range noValues() {
		bad := append(slices.Clone(v), x)
		for _, call := range []func() (bool, api.Errno){
			func() (bool, api.Errno) { return mean.Alike(h, bad, h, v) },
			func() (bool, api.Errno) { return mean.Alike(h, v, h, bad) },
			func() (bool, api.Errno) { return mean.Alike(h, bad, h, bad) },
		} {
			if is, e := call(); is || e != api.ErrArg {
				t.Errorf("F5: Alike of %v: %v, %d", x, is, e)
			}
		}
		if g, w, e := mean.Reached(h, bad); len(g)+len(w) > 0 || e != api.ErrArg {
			t.Errorf("F5: Reached of %v: %d", x, e)
		}
	}
	for _, g := range openHeaps() {
		is, e := mean.Alike(g, nil, h, v)
		same, f := mean.Alike(h, v, g, nil)
		if is || same || e != api.ErrArg || f != api.ErrArg {
			t.Errorf("F5: Alike of %.100s: %d, %d", showHeap(g), e, f)
		}
		if k, w, e := mean.Reached(g, nil); len(k)+len(w) > 0 || e != api.ErrArg {
			t.Errorf("F5: Reached of %.100s: %d", showHeap(g), e)
		}
	}
	if is, e := mean.Alike(h, vals("@1"), heap("array"), vals("@0")); !is || e != api.OK {
		t.Errorf("F5: %v, %d", is, e)
	}
	if is, e := mean.Alike(heap("array"), vals("@0"), h, vals("@2")); is || e != api.ErrArg {
		t.Errorf("F5: a value of the other heap: %v, %d", is, e)
	}
}

// anyHeap makes a small heap by chance, with few sorts of objects, so that many are alike.
func anyHeap(r *rand.Rand) ([]api.Obj, []api.Value) {
	n := 1 + r.IntN(4)
	value := func() api.Value {
		switch r.IntN(5) {
		case 0:
			return api.Value{Kind: api.ValInt, N: r.IntN(2)}
		case 1:
			return api.Value{Kind: api.ValBool, N: r.IntN(2)}
		}
		return api.Value{Kind: api.ValRef, N: r.IntN(n)}
	}
	var h []api.Obj
	for range n {
		o := api.Obj{Kind: uint8(1 + r.IntN(3))}
		size := 1 + r.IntN(2)
		if o.Kind == api.ObjArray {
			size = r.IntN(3)
		}
		if o.Kind == api.ObjOneof {
			size, o.Tag = 1, r.IntN(2)
		}
		for range size {
			o.Vals = append(o.Vals, value())
		}
		h = append(h, o)
	}
	var v []api.Value
	for range r.IntN(3) {
		v = append(v, value())
	}
	return h, v
}

// mixed puts the objects of a heap in another order, with others besides; it returns the heap, and what values are there.
func mixed(r *rand.Rand, h []api.Obj, v []api.Value) ([]api.Obj, []api.Value) {
	more, _ := anyHeap(r)
	g := slices.Concat(h, more)
	for i := range g[len(h):] {
		o := &g[len(h)+i]
		o.Vals = slices.Clone(o.Vals)
		for j := range o.Vals {
			if o.Vals[j].Kind == api.ValRef && r.IntN(2) == 0 {
				o.Vals[j].N += len(h)
			}
			if o.Vals[j].Kind == api.ValRef {
				o.Vals[j].N %= len(g)
			}
		}
	}
	to := r.Perm(len(g))
	renamed := func(l []api.Value) []api.Value {
		l = slices.Clone(l)
		for i := range l {
			if l[i].Kind == api.ValRef {
				l[i].N = to[l[i].N]
			}
		}
		return l
	}
	out := make([]api.Obj, len(g))
	for i, o := range g {
		out[to[i]] = api.Obj{Kind: o.Kind, Tag: o.Tag, Vals: renamed(o.Vals)}
	}
	return out, renamed(v)
}

// P6.5: Alike is an equivalence; Reached is alike to what was given, and the same for all that are alike.
func TestAlikeByChance(t *testing.T) {
	t.Parallel()
	r := rand.New(rand.NewPCG(6, 5))
	type pool struct {
		h []api.Obj
		v []api.Value
	}
	seen := map[bool]int{}
	for range 3000 {
		var l []pool
		for range 3 {
			h, v := anyHeap(r)
			l = append(l, pool{h, v})
			h, v = mixed(r, h, v)
			l = append(l, pool{h, v})
		}
		is := map[[2]int]bool{}
		for i, x := range l {
			g, w, e := mean.Reached(x.h, x.v)
			again, values := plainReached(x.h, x.v)
			if e != api.OK || showHeap(g) != showHeap(again) || showValues(w) != showValues(values) {
				t.Fatalf("F5: Reached of %s in %s: %s in %s, %d", showValues(x.v), showHeap(x.h), showValues(w), showHeap(g), e)
			}
			if !areAlike(t, x.h, x.v, g, w) {
				t.Fatalf("P6.5: Reached of %s in %s: %s in %s", showValues(x.v), showHeap(x.h), showValues(w), showHeap(g))
			}
			for j, y := range l {
				same := areAlike(t, x.h, x.v, y.h, y.v)
				k, u, _ := mean.Reached(y.h, y.v)
				isSame := showHeap(g) == showHeap(k) && slices.Equal(w, u)
				if same != areBothWays(x.h, x.v, y.h, y.v) || same != isSame || i == j && !same || i/2 == j/2 && !same {
					t.Fatalf("P6.5: %s in %s and %s in %s: %v", showValues(x.v), showHeap(x.h), showValues(y.v), showHeap(y.h), same)
				}
				is[[2]int{i, j}] = same
				if i/2 != j/2 {
					seen[same]++
				}
			}
		}
		for i := range l {
			for j := range l {
				for k := range l {
					if is[[2]int{i, j}] != is[[2]int{j, i}] || is[[2]int{i, j}] && is[[2]int{j, k}] && !is[[2]int{i, k}] {
						t.Fatalf("P6.5: no equivalence: %v", l)
					}
				}
			}
		}
	}
	if seen[true] < 1000 || seen[false] < 1000 {
		t.Errorf("%d are alike, %d are not", seen[true], seen[false])
	}
}
