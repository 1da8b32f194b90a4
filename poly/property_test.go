package poly_test

import (
	"fmt"
	"slices"
	"testing"

	"argus/api"
	"argus/check"
	"argus/mean"
	"argus/poly"
	"argus/sample"
)

// P7.1: what is named, what is needed, names and programs are as a second way has them.
func TestInstancesByChance(t *testing.T) {
	t.Parallel()
	seen := map[api.Errno]int{}
	trials(t, 1, 100, func(x trial) {
		i := x.instance()
		want, isThere := plainUses(x.p, i)
		l, e := poly.Uses(x.p, i)
		if !slices.Equal(l, want) || (e == api.OK) != isThere || e != api.OK && e != api.ErrDeep {
			t.Fatalf("G2: Uses(%s): %q, %d, not %q, %v of\n%s", i, l, e, want, isThere, x.source)
		}
		start := append(x.instances(2), i)
		want, isThere = plainAll(x.p, start)
		l, e = poly.All(x.p, start)
		if !slices.Equal(l, want) || (e == api.OK) != isThere || e != api.OK && e != api.ErrDeep {
			t.Fatalf("G3: All(%s): %q, %d, not %q, %v of\n%s", show(start), l, e, want, isThere, x.source)
		}
		seen[e]++
		q, f := poly.Mono(x.p, start)
		if e != f {
			t.Fatalf("G5: Mono(%s): %d, not %d of\n%s", show(start), f, e, x.source)
		}
		if e == api.OK && !same(q, plainMono(x.p, l)) {
			t.Fatalf("G5: Mono(%s): %v of\n%s", show(start), q, x.source)
		}
		some := append(x.instances(10), start...)
		slices.Sort(some)
		some = slices.Compact(some)
		names, e := poly.Names(x.p, some)
		if e != api.OK || !slices.Equal(names, plainNames(x.p, some)) {
			t.Fatalf("G4: Names(%s): %q, %d of\n%s", show(some), names, e, x.source)
		}
	})
	if seen[api.OK] < 40 || seen[api.ErrDeep] < 5 {
		t.Errorf("%v", seen)
	}
}

// P7.2: programs of instances are valid, have no parameters, and as many faces as there are instances; they stay when they are made again.
func TestProgramsByChance(t *testing.T) {
	t.Parallel()
	trials(t, 2, 60, func(x trial) {
		start := append(x.instances(2), "main")
		l, e := poly.All(x.p, start)
		if e != api.OK {
			return
		}
		q := mono(t, x.p, start...)
		if check.CheckProgram(q) != api.OK || poly.CheckMono(q) != api.OK || len(q.Faces) != len(l) {
			t.Fatalf("P7.2: Mono(%s): %d, %q of\n%s", show(start), poly.CheckMono(q), namesOf(q), x.source)
		}
		names, e := poly.Names(x.p, l)
		if e != api.OK || !slices.Equal(slices.Sorted(slices.Values(names)), namesOf(q)) {
			t.Fatalf("G4: %q, %d, not %q", names, e, namesOf(q))
		}
		var starts []string
		for _, s := range start {
			starts = append(starts, names[slices.Index(l, s)])
		}
		if again := mono(t, q, starts...); !same(q, again) {
			t.Fatalf("P7.2: Mono(%s): %v, not %v of\n%s", show(starts), again, q, x.source)
		}
	})
}

// P7.3: runs with all modules with which a run can start are the same, with the same steps.
func TestRunsByChance(t *testing.T) {
	t.Parallel()
	seen := map[uint8]int{}
	trials(t, 3, 50, func(x trial) {
		start := append(x.instances(1), "main", "say", "deep")
		if _, e := poly.All(x.p, start); e != api.OK {
			return
		}
		q := mono(t, x.p, start...)
		for _, name := range start {
			can, e := poly.Start(x.p, name)
			if e != api.OK && e != api.ErrInst {
				t.Fatalf("G1: Start(%s): %d", name, e)
			}
			if !can {
				continue
			}
			for range 3 {
				args := []int{x.IntN(6) - 1, x.IntN(2)}[:len(core(t, x.p, "", name).Sig.Args)]
				steps := sample.Pick(x, 5000, 5000, x.IntN(100))
				a, e := mean.Run(x.p, name, args, steps)
				b, f := mean.Run(q, name, args, steps)
				if e != api.OK || f != api.OK || !same(a, b) {
					t.Fatalf("P7.3: %s(%v), %d steps: %v, %d, not %v, %d of\n%s", name, args, steps, b, f, a, e, x.source)
				}
				seen[a.Kind]++
			}
		}
	})
	for kind := api.RanDone; kind <= api.RanSpent; kind++ {
		if seen[kind] < 10 {
			t.Errorf("%v", seen)
		}
	}
}

// G1: a run can start with what mean.Run accepts.
func TestStartsByChance(t *testing.T) {
	t.Parallel()
	trials(t, 4, 20, func(x trial) {
		for i, f := range x.p.Faces {
			can, e := poly.Start(x.p, f.Name)
			_, wrong := mean.Run(x.p, f.Name, make([]int, len(f.Ops[0].Sig.Args)), 1)
			if e != api.OK || can != (wrong == api.OK) {
				t.Errorf("G1: Start of face %d: %v, %d, Run: %d of\n%s", i, can, e, wrong, x.source)
			}
		}
	})
}

// P7.4: All is the least list that CheckAll accepts.
func TestLeastLists(t *testing.T) {
	t.Parallel()
	accepts := func(x trial, start, l []string) bool {
		is, e := poly.CheckAll(x.p, start, l)
		if e != api.OK {
			t.Fatalf("G3: CheckAll(%s; %s): %d of\n%s", show(start), show(l), e, x.source)
		}
		return is
	}
	trials(t, 5, 30, func(x trial) {
		start := append(x.instances(2), "main")
		l, e := poly.All(x.p, start)
		if e != api.OK {
			if accepts(x, start, l) {
				t.Fatalf("P7.4: %s of\n%s", show(l), x.source)
			}
			return
		}
		if !accepts(x, start, l) || !slices.Equal(all(t, x.p, l...), l) {
			t.Fatalf("P7.4: %s of\n%s", show(l), x.source)
		}
		for i := range l {
			if less := slices.Delete(slices.Clone(l), i, i+1); accepts(x, start, less) {
				t.Fatalf("P7.4: %s without %s of\n%s", show(less), l[i], x.source)
			}
		}
		further := append(slices.Clone(start), x.instance())
		more, e := poly.All(x.p, further)
		if e == api.OK && (!accepts(x, start, more) || !accepts(x, further, more)) {
			t.Fatalf("P7.4: %s of\n%s", show(more), x.source)
		}
		for _, i := range l {
			if e == api.OK && !slices.Contains(more, i) {
				t.Fatalf("P7.4: %s is not in %s of\n%s", i, show(more), x.source)
			}
		}
	})
}

// P7.5: types have the same KindOf as what they come to be.
func TestKindsByChance(t *testing.T) {
	t.Parallel()
	seen := map[uint8]int{}
	trials(t, 6, 25, func(x trial) {
		start := append(x.instances(3), "main")
		l, e := poly.All(x.p, start)
		if e != api.OK {
			return
		}
		q := mono(t, x.p, start...)
		names := plainNames(x.p, l)
		for _, i := range l {
			if k, e := poly.KindOf(x.p, i); k == 0 {
				if at, _ := ownOf(x.p, i); e != api.ErrArg || x.p.Faces[at].Kind == api.ModCluster {
					t.Fatalf("G6: KindOf(%s): %d of\n%s", i, e, x.source)
				}
				continue
			}
			for _, of := range []string{i, "array[" + i + "]", "oneof[a:int,b:" + i + "]"} {
				k, e := poly.KindOf(x.p, of)
				turned := replaced(of, func(i string) string { return names[slices.Index(l, i)] })
				m, f := poly.KindOf(q, turned)
				if k != m || e != f {
					t.Fatalf("P7.5: %s: %d, %d; %s: %d, %d of\n%s", of, k, e, turned, m, f, x.source)
				}
				seen[k]++
				if b, e := mean.Bottom(x.p, of); e == api.OK && (k == api.RegWord) != slices.Contains([]string{"int", "bool", "null"}, b) {
					t.Fatalf("G6: KindOf(%s): %d, and the bottom is %s", of, k, b)
				}
			}
		}
	})
	if seen[api.RegWord] < 5 || seen[api.RegRef] < 100 {
		t.Error(fmt.Sprint(seen))
	}
}
