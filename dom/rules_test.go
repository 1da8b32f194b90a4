package dom_test

import (
	"fmt"
	"math/rand/v2"
	"reflect"
	"slices"
	"strings"
	"testing"

	"argus/api"
	"argus/dom"
	"argus/flow"
	"argus/sample"
)

// question is what the calls of the functions are given.
type question struct {
	f               api.Flow
	d               api.Doms
	a, b            int
	block, register int
	way             []int
}

// newQuestion has what all functions have a result for.
func newQuestion() question {
	f := words(6,
		block(branch(0, 1, 2), number(4, 1), number(5, 1)),
		block(caught(call("q", 4, 3, 0, 1), "s", 1, "others", 2), phi(4, 0, 1), put(4)),
		block(caught(try(add(5, 4, 5), 3), "overflow", 0), phi(4, 0, 1), put(5)),
		block(branch(5, 0, 1), phi(5, 4, 5)),
		block(goTo(4)))
	f.Slots, f.Signals = []uint8{1}, []string{"s"}
	f.Blocks[3].Ins[0].Args = []int{4, 5}
	f.Blocks[1].Ins[0].Args = []int{0, 1, 2}
	d, _ := dom.Prove(f)
	return question{f, d, 0, 3, 0, 4, []int{1, 3}}
}

// results returns all results.
func (q question) results() []any {
	type result struct {
		Is      bool
		Are     []bool
		List    []int
		In, Out [][]int
		Doms    api.Doms
		Loops   []api.Loop
		Err     api.Errno
	}
	var l []any
	for _, do := range []func() result{
		func() (r result) { r.Are, r.Err = dom.Reach(q.f); return },
		func() (r result) { r.List, r.Err = dom.Order(q.f); return },
		func() (r result) { r.List, r.Err = dom.Idom(q.f); return },
		func() (r result) { r.Is, r.Err = dom.Dominates(q.f, q.a, q.b); return },
		func() (r result) { r.Doms, r.Err = dom.Prove(q.f); return },
		func() (r result) { r.Is, r.Err = dom.CheckProof(q.f, q.d); return },
		func() (r result) { r.In, r.Err = dom.Frontier(q.f); return },
		func() (r result) { r.Loops, r.Err = dom.Loops(q.f); return },
		func() (r result) { r.Is, r.Err = dom.Reducible(q.f); return },
		func() (r result) { r.In, r.Out, r.Err = dom.Live(q.f); return },
		func() (r result) { r.List, r.Is, r.Err = dom.Witness(q.f, q.block, q.register); return },
		func() (r result) { r.Is, r.Err = dom.CheckWitness(q.f, q.block, q.register, q.way); return },
	} {
		r := do()
		if r.Err != api.OK && !same(r, result{Err: r.Err}) {
			l = append(l, fmt.Sprint("R2: ", r))
		}
		l = append(l, r)
	}
	return l
}

// R3, R4: arguments stay, results share no memory, and the same call returns the same, whatever became of earlier results.
func TestCallsLeaveArguments(t *testing.T) {
	q, before := newQuestion(), newQuestion()
	first := q.results()
	for i, x := range first {
		if s := fmt.Sprint(x); !strings.HasSuffix(s, " 0}") {
			t.Errorf("no result %d: %s", i, s)
		}
	}
	if !reflect.DeepEqual(q, before) {
		t.Error("R3: the arguments were changed")
	}
	apart(t, "results and arguments", append(first, q.f, q.d, q.way)...)
	text := fmt.Sprint(first)
	for range 3 {
		again := q.results()
		if fmt.Sprint(again) != text {
			t.Errorf("R4: %v, not %v", again, first)
		}
		apart(t, "results of two calls", append(first, again...)...)
		for _, x := range again {
			spoil(reflect.ValueOf(x))
		}
	}
	if fmt.Sprint(first) != text || !reflect.DeepEqual(q, before) {
		t.Error("R3: memory is shared")
	}
}

// R3: the results of flows by chance share no memory.
func TestMemoryByChance(t *testing.T) {
	t.Parallel()
	trials(21, 200, func(r *rand.Rand, f api.Flow) {
		q := question{f: f}
		q.d, _ = dom.Prove(f)
		apart(t, "results and arguments", append(q.results(), q.f, q.d)...)
	})
}

// spoil overwrites all slices in a value, with all that they have room for.
func spoil(v reflect.Value) {
	switch v.Kind() {
	case reflect.Struct:
		for i := range v.NumField() {
			spoil(v.Field(i))
		}
	case reflect.Slice:
		for i := range v.Len() {
			spoil(v.Index(i))
		}
		v.Slice(0, v.Cap()).Clear()
	}
}

// roomy gives all slices in a value room for more, with something in it.
func roomy(v reflect.Value) {
	switch v.Kind() {
	case reflect.Struct:
		for i := range v.NumField() {
			roomy(v.Field(i))
		}
	case reflect.Slice:
		for i := range v.Len() {
			roomy(v.Index(i))
		}
		n := v.Len()
		more := reflect.MakeSlice(v.Type(), n+50, n+50)
		reflect.Copy(more, v)
		for i := n; i < n+50; i++ {
			fillAny(more.Index(i))
		}
		v.Set(more.Slice(0, n))
	}
}

func fillAny(v reflect.Value) {
	switch v.Kind() {
	case reflect.Int:
		v.SetInt(77)
	case reflect.Uint8:
		v.SetUint(77)
	case reflect.String:
		v.SetString("room")
	case reflect.Struct:
		for i := range v.NumField() {
			fillAny(v.Field(i))
		}
	}
}

// behindAll writes what lies behind all slices in a value.
func behindAll(v reflect.Value) string {
	s := ""
	switch v.Kind() {
	case reflect.Struct:
		for i := range v.NumField() {
			s += behindAll(v.Field(i))
		}
	case reflect.Slice:
		for i := range v.Len() {
			s += behindAll(v.Index(i))
		}
		s += fmt.Sprint(v.Slice(v.Len(), v.Cap()))
	}
	return s
}

// R3: what lies behind an argument in its memory stays too.
func TestMemoryBehindArguments(t *testing.T) {
	q := newQuestion()
	want := fmt.Sprint(q.results())
	held := []reflect.Value{reflect.ValueOf(&q.f).Elem(), reflect.ValueOf(&q.d).Elem(), reflect.ValueOf(&q.way).Elem()}
	before := ""
	for _, v := range held {
		roomy(v)
		before += behindAll(v)
	}
	if got := fmt.Sprint(q.results()); got != want {
		t.Errorf("R4: %s, not %s", got, want)
	}
	after := ""
	for _, v := range held {
		after += behindAll(v)
	}
	if after != before || !strings.Contains(before, "room") {
		t.Error("R3: what lies behind the arguments was changed")
	}
}

// R3: nil slices and empty ones are the same.
func TestEmptySlices(t *testing.T) {
	a := proc("p", "", block(goTo(1)), block(ret(-1)))
	b := copied(a)
	b.Regs, b.Slots, b.Signals = []uint8{}, []uint8{}, []string{}
	for i := range b.Blocks {
		x := &b.Blocks[i]
		x.Ins, x.End.Args, x.End.Whens, x.End.Ins.Args = []api.Ins{}, []int{}, []api.When{}, []int{}
	}
	ways := func(none []int) [][]int { return [][]int{none, {0, 1}} }
	p := api.Doms{Parent: []int{-1, 0}, One: ways(nil), Two: ways(nil)}
	q := api.Doms{Parent: []int{-1, 0}, One: ways([]int{}), Two: ways([]int{})}
	want := fmt.Sprint(question{f: a, d: p}.results())
	if got := fmt.Sprint(question{f: b, d: q, way: []int{}}.results()); got != want || strings.Contains(got, "R2") {
		t.Errorf("R3: %s, not %s", got, want)
	}
	for _, d := range []api.Doms{p, q} {
		if is, e := dom.CheckProof(b, d); !is || e != api.OK {
			t.Errorf("R3: %v, %d", is, e)
		}
	}
	for _, d := range []api.Doms{{}, {Parent: []int{}, One: [][]int{}, Two: [][]int{}}} {
		if is, e := dom.CheckProof(b, d); is || e != api.OK {
			t.Errorf("R3: %v, %d", is, e)
		}
	}
	g := sum()
	for _, way := range [][]int{nil, {}} {
		if is, e := dom.CheckWitness(g, 0, 0, way); is || e != api.OK {
			t.Errorf("R3: %v, %d", is, e)
		}
	}
}

// R4: calls that run at once do not meet.
func TestCallsAtOnce(t *testing.T) {
	q := newQuestion()
	want := fmt.Sprint(q.results())
	done := make(chan bool)
	for range 8 {
		go func() {
			isSame := true
			for range 20 {
				isSame = isSame && fmt.Sprint(q.results()) == want
			}
			done <- isSame
		}()
	}
	for range 8 {
		if !<-done {
			t.Error("R4: the results are others")
		}
	}
}

// R1, R2: flows and arguments of any sort: no call panics, the first error is that of flow.Check, and with an error there is nothing else.
func TestArgumentsOfAnySort(t *testing.T) {
	t.Parallel()
	seen := map[api.Errno]int{}
	number := func(r *rand.Rand) int {
		return []int{r.IntN(8), r.IntN(8), r.IntN(8), -1, -2, 1 << 62, -1 << 63}[r.IntN(7)]
	}
	numbers := func(r *rand.Rand) []int {
		var l []int
		for range r.IntN(8) {
			l = append(l, number(r))
		}
		return l
	}
	trials(22, 1500, func(r *rand.Rand, f api.Flow) {
		for range r.IntN(3) {
			f = sample.Changed(r, f)
		}
		q := question{f: f, a: number(r), b: number(r), block: number(r), register: number(r), way: numbers(r)}
		if r.IntN(20) == 0 {
			q.f.Blocks = nil
		}
		if d, e := dom.Prove(f); e == api.OK && r.IntN(2) == 0 {
			q.d = d
		}
		for range r.IntN(8) {
			l := numbers(r)
			q.d.Parent = append(q.d.Parent, number(r))
			q.d.One = append(q.d.One, l)
			q.d.Two = append(q.d.Two, numbers(r))
		}
		e := flow.Check(q.f)
		hasBlocks := func(l ...int) bool {
			return !slices.ContainsFunc(l, func(b int) bool { return b < 0 || b >= len(q.f.Blocks) })
		}
		for i, x := range q.results() {
			if s := fmt.Sprint(x); strings.HasPrefix(s, "R2") {
				t.Fatalf("R2: call %d: %s of %+v", i, s, q)
			}
			want := e
			isBad := i == 3 && !hasBlocks(q.a, q.b) || i > 9 && (!hasBlocks(q.block) || q.register < 0 || q.register >= len(q.f.Regs))
			if e == api.OK && isBad {
				want = api.ErrArg
			}
			if got := api.Errno(reflect.ValueOf(x).FieldByName("Err").Int()); got != want {
				t.Fatalf("R1: call %d: %d, not %d of %+v", i, got, want, q)
			}
			seen[want]++
		}
	})
	if seen[api.OK] < 2000 || seen[api.ErrArg] < 500 || seen[api.ErrFlow] < 2000 {
		t.Errorf("%v", seen)
	}
}

// The errors of flows come out of all functions.
func TestErrorsOfFlows(t *testing.T) {
	unwritten, wrong := sum(), sum()
	unwritten.Blocks[3].End.A = 2
	wrong.Blocks[3].End.A = 3
	for want, f := range map[api.Errno]api.Flow{api.ErrRead: unwritten, api.ErrFlow: wrong} {
		for _, q := range []question{{f: f}, {f: f, a: -1, b: 9, block: -1, register: 9}, {f: f, d: newQuestion().d, way: []int{0, 1}}} {
			for i, x := range q.results() {
				if s := fmt.Sprint(x); !strings.HasSuffix(s, fmt.Sprintf(" %d}", want)) {
					t.Errorf("call %d: %s, not %d", i, s, want)
				}
			}
		}
	}
}
