package opt_test

import (
	"fmt"
	"math/rand/v2"
	"reflect"
	"slices"
	"strings"
	"testing"

	"argus/api"
	"argus/opt"
	"argus/sample"
	"argus/ssa"
)

// question is what the calls of the functions are given.
type question struct {
	f     api.Flow
	facts []api.Fact
	reg   int
}

// newQuestion has what all functions have a result for, and much to do.
func newQuestion() question {
	f := with(proc("p", "wrwwwwwwwrwwiw",
		block(caught(try(ins(api.TryAdd, 6, 2, 3), 1), "overflow", 3, "x", 5), number(2, 1), number(3, 2), move(4, 2), ins(api.InsLt, 5, 2, 3), move(9, 1), api.Ins{Op: api.InsSet, A: 9, B: 4}),
		block(branch(5, 2, 3), phi(7, 6), put(7)),
		block(caught(call("q", 8, 4, 9, 4, 6), "s", 3, "others", 4)),
		block(open("i", 12, 6, 9), phi(10, 0, 2, 4)),
		block(ret(4), phi(11, 0, 4, 3)),
		block(goTo(4), put(0)),
		block(caught(next(12, 13, 6, 4), "s", 4))), 2, 1)
	f.Signals, f.Slots = []string{"s"}, []uint8{1, 2}
	return question{f, []api.Fact{just(2, 1), just(3, 2), alike(4, 2), just(5, 1), just(6, 3), alike(9, 1), alike(7, 6)}, 6}
}

// results returns all results.
func (q question) results() []any {
	type result struct {
		Flow      api.Flow
		Facts     []api.Fact
		List      []int
		Low, High int
		Is        bool
		Err       api.Errno
	}
	var l []any
	for _, do := range []func() result{
		func() (r result) { r.Is, r.Err = opt.CheckFacts(q.f, q.facts); return },
		func() (r result) { r.Facts, r.Err = opt.Facts(q.f); return },
		func() (r result) { r.Low, r.High, r.Err = opt.Range(q.f, q.facts, q.reg); return },
		func() (r result) { r.Flow, r.Err = opt.Fold(q.f, q.facts); return },
		func() (r result) { r.List, r.Err = opt.Needed(q.f); return },
		func() (r result) { r.Flow, r.Err = opt.Dead(q.f); return },
		func() (r result) { r.Flow, r.Err = opt.Trim(q.f); return },
		func() (r result) { r.Flow, r.Err = opt.Opt(q.f); return },
	} {
		r := do()
		if r.Err != api.OK && !same(r, result{Err: r.Err}) {
			l = append(l, fmt.Sprint("R2: ", r))
		}
		l = append(l, r)
	}
	return l
}

// R3, R4: arguments stay, results share no memory, and the same call returns the same, whatever became of earlier results.
func TestCallsLeaveArguments(t *testing.T) {
	q, before := newQuestion(), newQuestion()
	first := q.results()
	for i, x := range first {
		if s := fmt.Sprint(x); !strings.HasSuffix(s, " 0}") {
			t.Errorf("no result %d: %s", i, s)
		}
	}
	if !reflect.DeepEqual(q, before) {
		t.Error("R3: the arguments were changed")
	}
	apart(t, "results and arguments", append(first, q.f, q.facts)...)
	text := fmt.Sprint(first)
	for range 3 {
		again := q.results()
		if fmt.Sprint(again) != text {
			t.Errorf("R4: %v, not %v", again, first)
		}
		apart(t, "results of two calls", append(first, again...)...)
		for _, x := range again {
			spoil(reflect.ValueOf(x))
		}
	}
	if fmt.Sprint(first) != text || !reflect.DeepEqual(q, before) {
		t.Error("R3: memory is shared")
	}
}

// R3: the results of flows by chance share no memory.
func TestMemoryByChance(t *testing.T) {
	t.Parallel()
	forms(t, 21, 300, func(r *rand.Rand, l []api.Flow, i int) {
		q := question{f: copiedFlow(l[i]), facts: holding(l[i], someFacts(r, l[i]))}
		before := fmt.Sprint(q)
		apart(t, "results and arguments", append(q.results(), q.f, q.facts)...)
		if fmt.Sprint(q) != before {
			t.Fatalf("R3: %v, not %s", q, before)
		}
	})
}

// spoil overwrites all slices in a value, with all that they have room for.
func spoil(v reflect.Value) {
	switch v.Kind() {
	case reflect.Struct:
		for i := range v.NumField() {
			spoil(v.Field(i))
		}
	case reflect.Slice:
		for i := range v.Len() {
			spoil(v.Index(i))
		}
		v.Slice(0, v.Cap()).Clear()
	}
}

// roomy gives all slices in a value room for more, with something in it.
func roomy(v reflect.Value) {
	switch v.Kind() {
	case reflect.Struct:
		for i := range v.NumField() {
			roomy(v.Field(i))
		}
	case reflect.Slice:
		for i := range v.Len() {
			roomy(v.Index(i))
		}
		n := v.Len()
		more := reflect.MakeSlice(v.Type(), n+50, n+50)
		reflect.Copy(more, v)
		for i := n; i < n+50; i++ {
			fillAny(more.Index(i))
		}
		v.Set(more.Slice(0, n))
	}
}

func fillAny(v reflect.Value) {
	switch v.Kind() {
	case reflect.Int:
		v.SetInt(77)
	case reflect.Uint8:
		v.SetUint(77)
	case reflect.String:
		v.SetString("room")
	case reflect.Struct:
		for i := range v.NumField() {
			fillAny(v.Field(i))
		}
	}
}

// behindAll writes what lies behind all slices in a value.
func behindAll(v reflect.Value) string {
	s := ""
	switch v.Kind() {
	case reflect.Struct:
		for i := range v.NumField() {
			s += behindAll(v.Field(i))
		}
	case reflect.Slice:
		for i := range v.Len() {
			s += behindAll(v.Index(i))
		}
		s += fmt.Sprint(v.Slice(v.Len(), v.Cap()))
	}
	return s
}

// R3: what lies behind an argument in its memory stays too.
func TestMemoryBehindArguments(t *testing.T) {
	q := newQuestion()
	want := fmt.Sprint(q.results())
	var held []reflect.Value
	for _, p := range []any{&q.f, &q.facts} {
		held = append(held, reflect.ValueOf(p).Elem())
	}
	before := ""
	for _, v := range held {
		roomy(v)
		before += behindAll(v)
	}
	if got := fmt.Sprint(q.results()); got != want {
		t.Errorf("R4: %s, not %s", got, want)
	}
	after := ""
	for _, v := range held {
		after += behindAll(v)
	}
	if after != before || !strings.Contains(before, "room") {
		t.Error("R3: what lies behind the arguments was changed")
	}
}

// R3: nil slices and empty ones are the same.
func TestEmptySlices(t *testing.T) {
	a := proc("p", "", block(goTo(1)), block(ret(-1)))
	b := copied(a)
	b.Regs, b.Slots, b.Signals = []uint8{}, []uint8{}, []string{}
	for i := range b.Blocks {
		x := &b.Blocks[i]
		x.Ins, x.End.Args, x.End.Whens, x.End.Ins.Args = []api.Ins{}, []int{}, []api.When{}, []int{}
	}
	want := fmt.Sprint(question{f: a}.results())
	q := question{f: b, facts: []api.Fact{}}
	if got := fmt.Sprint(q.results()); got != want || strings.Contains(got, "R2") || !strings.Contains(got, "true") {
		t.Errorf("R3: %s, not %s", got, want)
	}
}

// R4: calls that run at once do not meet.
func TestCallsAtOnce(t *testing.T) {
	q := newQuestion()
	want := fmt.Sprint(q.results())
	done := make(chan bool)
	for range 8 {
		go func() {
			isSame := true
			for range 20 {
				isSame = isSame && fmt.Sprint(q.results()) == want
			}
			done <- isSame
		}()
	}
	for range 8 {
		if !<-done {
			t.Error("R4: the results are others")
		}
	}
}

// R1, R2: flows and arguments of any sort: no call panics, the first error is that of ssa.Check, and with an error there is nothing else.
func TestArgumentsOfAnySort(t *testing.T) {
	t.Parallel()
	seen := map[api.Errno]int{}
	forms(t, 22, 1200, func(r *rand.Rand, l []api.Flow, i int) {
		q := question{f: l[i], reg: []int{r.IntN(8), r.IntN(8), -1, 1 << 62, -1 << 63}[r.IntN(5)]}
		q.facts = sample.Pick(r, someFacts(r, q.f), holding(q.f, someFacts(r, q.f)), nil)
		if r.IntN(2) == 0 {
			q.facts = otherFacts(r, q.f, q.facts)
		}
		for range r.IntN(3) {
			q.f = sample.Changed(r, q.f)
		}
		if r.IntN(20) == 0 {
			q.f.Blocks = nil
		}
		if r.IntN(20) == 0 {
			q.facts = slices.Repeat([]api.Fact{never(1)}, 3001)
		}
		first := ssa.Check(q.f)
		for i, x := range q.results() {
			if s := fmt.Sprint(x); strings.HasPrefix(s, "R2") {
				t.Fatalf("R2: call %d: %s of %+v", i, s, q)
			}
			got := api.Errno(reflect.ValueOf(x).FieldByName("Err").Int())
			if first != api.OK && got != first || first == api.OK && got != api.OK && got != api.ErrFact && got != api.ErrArg {
				t.Fatalf("R1: call %d: %d, not %d of %+v", i, got, first, q)
			}
			seen[got]++
		}
	})
	for _, e := range []api.Errno{api.OK, api.ErrFlow, api.ErrRead, api.ErrSsa, api.ErrFact, api.ErrArg} {
		if seen[e] < 20 {
			t.Errorf("%v", seen)
		}
	}
}
