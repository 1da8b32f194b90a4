package mean_test

import (
	"fmt"
	"slices"
	"strings"
	"testing"

	"argus/api"
	"argus/mean"
	"argus/sample"
)

// trial is a routine of a program with a heap and arguments, and more values of some types together with them.
type trial struct {
	p           api.Program
	source      string
	r           sample.Routine
	h           []api.Obj
	args        []api.Value
	more        []api.Value
	types       []string
	steps, most int
}

func (s trial) String() string {
	return fmt.Sprintf("%s(%s) and %s of %q with %s, %d steps, most %d, of\n%s", s.r.Ref, showValues(s.args), showValues(s.more), s.types, showHeap(s.h), s.steps, s.most, s.source)
}

// trials runs do for routines of programs that are made by chance.
func trials(t *testing.T, seed uint64, programs int, do func(m maker, s trial)) {
	t.Helper()
	for i := range programs {
		m := newMaker(seed*1000 + uint64(i))
		p, source := m.program(t)
		for range 12 {
			r := sample.Pick(m, m.Routines...)
			if r.HasArg {
				r = r.With(m.Comparable())
				r.Ref = strings.NewReplacer("{", "[", "}", "]").Replace(r.Ref)
			}
			s := trial{p: p, source: source, r: r, types: slices.Clone(r.Args), steps: sample.Pick(m, 5000, 5000, 5000, m.IntN(200))}
			if r.IsIter {
				s.most = sample.Pick(m, 1, 2, 3, 1000)
			}
			for range m.IntN(3) {
				s.types = append(s.types, m.Type(3))
			}
			h, v, isThere := m.values(p, s.types)
			if !isThere {
				continue
			}
			s.h, s.args, s.more = h, v[:len(r.Args)], v[len(r.Args):]
			if is, e := mean.Fits(p, h, v, s.types); !is || e != api.OK || !plainFits(p, h, v, s.types) {
				t.Fatalf("F4: %v, %d: %v", is, e, s)
			}
			do(m, s)
		}
	}
}

// ran is what a run returns.
type ran struct {
	yields []api.Value
	api.Ran
	heap []api.Obj
}

// run runs a trial on a heap.
func (s trial) run(t *testing.T, h []api.Obj, args []api.Value, steps, most int) ran {
	t.Helper()
	var x ran
	var e api.Errno
	if s.r.IsIter {
		x.yields, x.Ran, x.heap, e = mean.Each(s.p, h, s.r.Ref, args, steps, most)
	} else {
		x.Ran, x.heap, e = mean.Call(s.p, h, s.r.Ref, args, steps)
	}
	if e != api.OK {
		t.Fatalf("%d: %v", e, s)
	}
	return x
}

// P6.1: all runs are as a second way has them.
func TestRunsByChance(t *testing.T) {
	t.Parallel()
	seen := map[string]int{}
	trials(t, 1, 100, func(m maker, s trial) {
		r := askCall(t, s.p, s.h, s.r.Ref, s.args, s.steps, s.most)
		seen[fmt.Sprint(r.Kind, " ", r.Signal)]++
	})
	for _, what := range []string{"1 ", "2 low", "2 bounds", "2 failure", "2 high", "3 "} {
		if seen[what] < 2 {
			t.Errorf("%s only %d times: %v", what, seen[what], seen)
		}
	}
}

// P6.2: values keep their types, results have those that they should have, and only signals that are declared come out, or failure.
func TestTypesOfRuns(t *testing.T) {
	t.Parallel()
	results := 0
	trials(t, 2, 50, func(m maker, s trial) {
		x := s.run(t, s.h, s.args, s.steps, s.most)
		values, types := slices.Concat(s.args, s.more), slices.Clone(s.types)
		switch {
		case x.Kind == api.RanSignal:
			if x.Signal != "failure" && !slices.Contains(s.r.Signals, x.Signal) {
				t.Fatalf("P6.2: signal %s: %v", x.Signal, s)
			}
		case x.Kind == api.RanDone && !s.r.IsIter && s.r.Result != "":
			values, types = append(values, x.Value), append(types, s.r.Result)
			results++
		case x.Kind != api.RanDone && x.Kind != api.RanSpent:
			t.Fatalf("P6.2: %s: %v", showRan(x.Ran), s)
		}
		if (x.Kind == api.RanDone && !s.r.IsIter && s.r.Result != "") == (x.Value == api.Value{}) || (x.Kind == api.RanSignal) == (x.Signal == "") {
			t.Fatalf("F2: %s: %v", showRan(x.Ran), s)
		}
		for _, v := range x.yields {
			values, types = append(values, v), append(types, s.r.Result)
			results++
		}
		if is, e := mean.Fits(s.p, x.heap, values, types); !is || e != api.OK || !plainFits(s.p, x.heap, values, types) {
			t.Fatalf("P6.2: %v, %d: %s of %q in %s: %v", is, e, showValues(values), types, showHeap(x.heap), s)
		}
	})
	if results < 200 {
		t.Errorf("only %d results", results)
	}
}

// F4: values that are changed in one place fit, or not, as a second way has it.
func TestFitsByChance(t *testing.T) {
	t.Parallel()
	seen := map[bool]int{}
	trials(t, 3, 25, func(m maker, s trial) {
		for range 6 {
			h, v, types := copied(s.h), slices.Concat(s.args, s.more), slices.Clone(s.types)
			if len(v) == 0 {
				return
			}
			switch at := m.IntN(len(v)); m.IntN(4) {
			case 0:
				types[at] = m.Type(3)
			case 1:
				v[at] = sample.Pick(m, v...)
			default:
				if len(h) == 0 {
					continue
				}
				o := &h[m.IntN(len(h))]
				if len(o.Vals) > 0 {
					o.Vals[m.IntN(len(o.Vals))] = sample.Pick(m, api.Value{Kind: api.ValInt}, api.Value{Kind: api.ValBool}, api.Value{Kind: api.ValNil}, api.Value{Kind: api.ValRef, N: m.IntN(len(h))}, api.Value{Kind: api.ValRef, N: m.IntN(len(h))})
				}
				if o.Kind == api.ObjOneof {
					o.Tag = m.IntN(3)
				}
			}
			is, e := mean.Fits(s.p, h, v, types)
			if e != api.OK || is != plainFits(s.p, h, v, types) {
				t.Fatalf("F4: %v, %d: %s of %q in %s: %v", is, e, showValues(v), types, showHeap(h), s)
			}
			seen[is]++
		}
	})
	if seen[true] < 100 || seen[false] < 100 {
		t.Errorf("%v", seen)
	}
}

// P6.3: with more steps a run that is not spent is the same; a run that is spent has put a beginning.
func TestStepsByChance(t *testing.T) {
	t.Parallel()
	trials(t, 4, 20, func(m maker, s trial) {
		whole := s.run(t, s.h, s.args, 5000, s.most)
		for range 4 {
			steps := m.IntN(5001)
			if m.IntN(2) == 0 {
				steps = min(m.IntN(whole.Steps+2), 5000)
			}
			x := s.run(t, s.h, s.args, steps, s.most)
			if whole.Steps <= steps && (showRan(x.Ran) != showRan(whole.Ran) || showHeap(x.heap) != showHeap(whole.heap) || !slices.Equal(x.yields, whole.yields)) {
				t.Fatalf("P6.3: %d steps: %s, not %s: %v", steps, showRan(x.Ran), showRan(whole.Ran), s)
			}
			if steps < whole.Steps && (x.Kind != api.RanSpent || x.Steps != steps || x.Value != api.Value{} || x.Signal != "" || !isBeginning(x.Put, whole.Put) || !isBeginning(x.yields, whole.yields)) {
				t.Fatalf("P6.3: %d steps: %s, whole: %s: %v", steps, showRan(x.Ran), showRan(whole.Ran), s)
			}
		}
	})
}

// P6.4: with objects in another order, and others besides, a run is the same but for the indices.
func TestNamesOfObjects(t *testing.T) {
	t.Parallel()
	trials(t, 5, 30, func(m maker, s trial) {
		all := slices.Concat(s.args, s.more)
		g, w := mixed(m.Rand, s.h, all)
		x, y := s.run(t, s.h, s.args, s.steps, s.most), s.run(t, g, w[:len(s.args)], s.steps, s.most)
		a, b := x.Ran, y.Ran
		a.Value, b.Value = api.Value{}, api.Value{}
		if showRan(a) != showRan(b) {
			t.Fatalf("P6.4: %s, not %s: %v", showRan(y.Ran), showRan(x.Ran), s)
		}
		v, u := slices.Concat(all, x.yields), slices.Concat(w, y.yields)
		if x.Value != (api.Value{}) && y.Value != (api.Value{}) {
			v, u = append(v, x.Value), append(u, y.Value)
		}
		if (x.Value == api.Value{}) != (y.Value == api.Value{}) || !areAlike(t, x.heap, v, y.heap, u) {
			t.Fatalf("P6.4: %s in %s, not %s in %s: %v", showValues(u), showHeap(y.heap), showValues(v), showHeap(x.heap), s)
		}
	})
}

// P6.6: what is yielded for fewer values is a beginning of what is yielded for more.
func TestFewerValuesByChance(t *testing.T) {
	t.Parallel()
	yields := 0
	trials(t, 6, 30, func(m maker, s trial) {
		if !s.r.IsIter {
			return
		}
		whole := s.run(t, s.h, s.args, s.steps, 1000)
		for most := 1; most <= len(whole.yields)+1; most++ {
			x := s.run(t, s.h, s.args, s.steps, most)
			if !slices.Equal(x.yields, whole.yields[:min(most, len(whole.yields))]) {
				t.Fatalf("P6.6: most %d: %s, not %s: %v", most, showValues(x.yields), showValues(whole.yields), s)
			}
			if most <= len(whole.yields) && (x.Kind != api.RanDone || x.Steps > whole.Steps || !isBeginning(x.Put, whole.Put)) {
				t.Fatalf("F3: most %d: %s, whole: %s: %v", most, showRan(x.Ran), showRan(whole.Ran), s)
			}
			yields++
			if most > 20 {
				break
			}
		}
	})
	if yields < 100 {
		t.Errorf("only %d", yields)
	}
}
