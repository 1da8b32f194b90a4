package ssa_test

import (
	"fmt"
	"math/rand/v2"
	"reflect"
	"strings"
	"testing"

	"argus/api"
	"argus/flow"
	"argus/sample"
	"argus/ssa"
)

// question is what the calls of the functions are given.
type question struct {
	f, g, h api.Flow // without phis; what is to come from it; in SSA form
	origins []int
	l, s    []api.Pair
	spare   int
}

// newQuestion has what all functions have a result for.
func newQuestion() question {
	f := words(2, 4,
		block(branch(0, 1, 2), number(2, 1), number(3, 5)),
		block(caught(call("q", 2, 3, 0, 1), "s", 2, "others", 4), put(2)),
		block(caught(try(add(3, 2, 1), 3), "overflow", 5)),
		block(branch(3, 1, 2), put(2)),
		block(ret(-1)),
		block(goTo(4), put(3)))
	f.Slots, f.Signals = []uint8{1}, []string{"s"}
	g, origins, _ := ssa.Into(f)
	h := with(words(2, 6,
		block(goTo(1)),
		block(branch(0, 1, 2), phi(2, 0, 3), phi(3, 1, 2), phi(4, 0, 4)),
		block(caught(call("q", 5, 3, 2, 4), "s", 3)),
		block(ret(-1), put(3))), 2, 0)
	h.Slots, h.Signals = []uint8{1}, []string{"s"}
	return question{f, g, h, origins, pairs(1, 2, 2, 1, 3, 4, 4, 3, 5, 5), pairs(9, 1, 1, 2, 2, 9, 9, 3, 3, 4, 4, 9), 9}
}

// results returns all results.
func (q question) results() []any {
	type result struct {
		Flow  api.Flow
		List  []int
		Pairs []api.Pair
		N     int
		Is    bool
		Err   api.Errno
	}
	var l []any
	for _, do := range []func() result{
		func() (r result) { r.Err = ssa.Check(q.h); return },
		func() (r result) { r.Flow, r.List, r.Err = ssa.Into(q.f); return },
		func() (r result) { r.Is, r.Err = ssa.CheckInto(q.f, q.g, q.origins); return },
		func() (r result) { r.Flow, r.Err = ssa.Straight(q.f); return },
		func() (r result) { r.Flow, r.Err = ssa.Out(q.h); return },
		func() (r result) { r.Flow, r.Err = ssa.Lean(q.h); return },
		func() (r result) { r.N, r.Err = ssa.Phis(q.h); return },
		func() (r result) { r.Pairs, r.Err = ssa.Sequence(q.l, q.spare); return },
		func() (r result) { r.N, r.Err = ssa.Least(q.l); return },
		func() (r result) { r.Is, r.Err = ssa.CheckSequence(q.l, q.spare, q.s); return },
	} {
		r := do()
		if r.Err != api.OK && !same(r, result{Err: r.Err}) {
			l = append(l, fmt.Sprint("R2: ", r))
		}
		l = append(l, r)
	}
	return l
}

// R3, R4: arguments stay, results share no memory, and the same call returns the same, whatever became of earlier results.
func TestCallsLeaveArguments(t *testing.T) {
	q, before := newQuestion(), newQuestion()
	first := q.results()
	for i, x := range first {
		if s := fmt.Sprint(x); !strings.HasSuffix(s, " 0}") {
			t.Errorf("no result %d: %s", i, s)
		}
	}
	if !reflect.DeepEqual(q, before) {
		t.Error("R3: the arguments were changed")
	}
	apart(t, "results and arguments", append(first, q.f, q.g, q.h, q.origins, q.l, q.s)...)
	text := fmt.Sprint(first)
	for range 3 {
		again := q.results()
		if fmt.Sprint(again) != text {
			t.Errorf("R4: %v, not %v", again, first)
		}
		apart(t, "results of two calls", append(first, again...)...)
		for _, x := range again {
			spoil(reflect.ValueOf(x))
		}
	}
	if fmt.Sprint(first) != text || !reflect.DeepEqual(q, before) {
		t.Error("R3: memory is shared")
	}
}

// R3: the results of flows by chance share no memory.
func TestMemoryByChance(t *testing.T) {
	t.Parallel()
	forms(t, 21, 300, func(r *rand.Rand, l []api.Flow, i int) {
		for _, f := range l {
			q := question{f: f, h: copiedFlow(l[i]), l: someMoves(r, 12), spare: 12}
			q.g, q.origins, _ = ssa.Into(f)
			q.s, _ = ssa.Sequence(q.l, 12)
			apart(t, "results and arguments", append(q.results(), q.f, q.g, q.h, q.origins, q.l, q.s)...)
		}
	})
}

// spoil overwrites all slices in a value, with all that they have room for.
func spoil(v reflect.Value) {
	switch v.Kind() {
	case reflect.Struct:
		for i := range v.NumField() {
			spoil(v.Field(i))
		}
	case reflect.Slice:
		for i := range v.Len() {
			spoil(v.Index(i))
		}
		v.Slice(0, v.Cap()).Clear()
	}
}

// roomy gives all slices in a value room for more, with something in it.
func roomy(v reflect.Value) {
	switch v.Kind() {
	case reflect.Struct:
		for i := range v.NumField() {
			roomy(v.Field(i))
		}
	case reflect.Slice:
		for i := range v.Len() {
			roomy(v.Index(i))
		}
		n := v.Len()
		more := reflect.MakeSlice(v.Type(), n+50, n+50)
		reflect.Copy(more, v)
		for i := n; i < n+50; i++ {
			fillAny(more.Index(i))
		}
		v.Set(more.Slice(0, n))
	}
}

func fillAny(v reflect.Value) {
	switch v.Kind() {
	case reflect.Int:
		v.SetInt(77)
	case reflect.Uint8:
		v.SetUint(77)
	case reflect.String:
		v.SetString("room")
	case reflect.Struct:
		for i := range v.NumField() {
			fillAny(v.Field(i))
		}
	}
}

// behindAll writes what lies behind all slices in a value.
func behindAll(v reflect.Value) string {
	s := ""
	switch v.Kind() {
	case reflect.Struct:
		for i := range v.NumField() {
			s += behindAll(v.Field(i))
		}
	case reflect.Slice:
		for i := range v.Len() {
			s += behindAll(v.Index(i))
		}
		s += fmt.Sprint(v.Slice(v.Len(), v.Cap()))
	}
	return s
}

// R3: what lies behind an argument in its memory stays too.
func TestMemoryBehindArguments(t *testing.T) {
	q := newQuestion()
	want := fmt.Sprint(q.results())
	var held []reflect.Value
	for _, p := range []any{&q.f, &q.g, &q.h, &q.origins, &q.l, &q.s} {
		held = append(held, reflect.ValueOf(p).Elem())
	}
	before := ""
	for _, v := range held {
		roomy(v)
		before += behindAll(v)
	}
	if got := fmt.Sprint(q.results()); got != want {
		t.Errorf("R4: %s, not %s", got, want)
	}
	after := ""
	for _, v := range held {
		after += behindAll(v)
	}
	if after != before || !strings.Contains(before, "room") {
		t.Error("R3: what lies behind the arguments was changed")
	}
}

// R3: nil slices and empty ones are the same.
func TestEmptySlices(t *testing.T) {
	a := proc("p", "", block(goTo(1)), block(ret(-1)))
	b := copied(a)
	b.Regs, b.Slots, b.Signals = []uint8{}, []uint8{}, []string{}
	for i := range b.Blocks {
		x := &b.Blocks[i]
		x.Ins, x.End.Args, x.End.Whens, x.End.Ins.Args = []api.Ins{}, []int{}, []api.When{}, []int{}
	}
	want := fmt.Sprint(question{f: a, g: a, h: a}.results())
	q := question{f: b, g: b, h: b, origins: []int{}, l: []api.Pair{}, s: []api.Pair{}}
	if got := fmt.Sprint(q.results()); got != want || strings.Contains(got, "R2") || !strings.Contains(got, "true") {
		t.Errorf("R3: %s, not %s", got, want)
	}
	for _, x := range []form{{a, nil}, {b, []int{}}} {
		for _, f := range []api.Flow{a, b} {
			if is, e := ssa.CheckInto(f, x.Flow, x.origins); !is || e != api.OK {
				t.Errorf("R3: %v, %d", is, e)
			}
		}
	}
}

// R4: calls that run at once do not meet.
func TestCallsAtOnce(t *testing.T) {
	q := newQuestion()
	want := fmt.Sprint(q.results())
	done := make(chan bool)
	for range 8 {
		go func() {
			isSame := true
			for range 20 {
				isSame = isSame && fmt.Sprint(q.results()) == want
			}
			done <- isSame
		}()
	}
	for range 8 {
		if !<-done {
			t.Error("R4: the results are others")
		}
	}
}

// R1, R2: flows and arguments of any sort: no call panics, the first error is that of flow.Check, and with an error there is nothing else.
func TestArgumentsOfAnySort(t *testing.T) {
	t.Parallel()
	seen := map[api.Errno]int{}
	someNumber := func(r *rand.Rand) int {
		return []int{r.IntN(8), r.IntN(8), r.IntN(8), r.IntN(8), -1, -2, 1 << 62, -1 << 63}[r.IntN(8)]
	}
	somePairs := func(r *rand.Rand) []api.Pair {
		var l []api.Pair
		for range r.IntN(4) {
			l = append(l, api.Pair{To: someNumber(r), From: someNumber(r)})
		}
		return l
	}
	trials(22, 900, func(r *rand.Rand, l []api.Flow) {
		q := question{f: sample.Pick(r, l...), g: sample.Pick(r, l...), h: sample.Pick(r, l...), l: somePairs(r), s: somePairs(r), spare: someNumber(r)}
		if g, origins, e := ssa.Into(q.f); e == api.OK {
			q.g, q.origins = g, origins
			q.h = sample.Pick(r, g, q.h)
		}
		for range r.IntN(3) {
			q.f, q.h = sample.Changed(r, q.f), sample.Changed(r, q.h)
			g := changedForm(r, form{q.g, q.origins})
			q.g, q.origins = g.Flow, g.origins
		}
		if r.IntN(20) == 0 {
			q.origins = append(q.origins, someNumber(r))
		}
		if r.IntN(20) == 0 {
			q.f.Blocks, q.g.Blocks, q.h.Blocks = nil, nil, nil
		}
		e, g := flow.Check(q.f), flow.Check(q.h)
		for i, x := range q.results() {
			if s := fmt.Sprint(x); strings.HasPrefix(s, "R2") {
				t.Fatalf("R2: call %d: %s of %+v", i, s, q)
			}
			got := api.Errno(reflect.ValueOf(x).FieldByName("Err").Int())
			first := []api.Errno{g, e, e, e, g, g, g, 0, 0, 0}[i]
			if first != api.OK && got != first || first == api.OK && (got == api.ErrFlow || got == api.ErrRead) {
				t.Fatalf("R1: call %d: %d, not %d of %+v", i, got, first, q)
			}
			seen[got]++
		}
	})
	for _, e := range []api.Errno{api.OK, api.ErrFlow, api.ErrRead, api.ErrSsa, api.ErrWays, api.ErrArg} {
		if seen[e] < 20 {
			t.Errorf("%v", seen)
		}
	}
}

// The errors of flows come out of all functions.
func TestErrorsOfFlows(t *testing.T) {
	unwritten, wrong := sum(), sum()
	unwritten.Blocks[3].End.A = 2
	wrong.Blocks[3].End.A = 3
	for want, f := range map[api.Errno]api.Flow{api.ErrRead: unwritten, api.ErrFlow: wrong} {
		for i, x := range (question{f: f, g: f, h: f}).results()[:7] {
			if s := fmt.Sprint(x); !strings.HasSuffix(s, fmt.Sprintf(" %d}", want)) {
				t.Errorf("call %d: %s, not %d", i, s, want)
			}
		}
	}
}
