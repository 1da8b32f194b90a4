package flow_test

import (
	"fmt"
	"math/rand/v2"
	"reflect"
	"slices"
	"strings"
	"testing"

	"argus/api"
	"argus/flow"
)

// question is what the calls of the functions are given.
type question struct {
	f            api.Flow
	l            []api.Flow
	name, text   string
	args, to     []int
	steps, block int
	x            api.Ins
	e            api.End
}

// newQuestion has what all functions have a result for.
func newQuestion() question {
	l := sorted(append(deep(), sum(), many()))
	l[len(l)-2] = upto("low")
	l = sorted(l)
	for i := range l {
		l[i].Slots = append(l[i].Slots, 1)
	}
	return question{many(), l, "deep", textOfMany, []int{3}, []int{0, 1, 2, 3, 4, 6, 5}, 1000, 1, many().Blocks[0].Ins[2], many().Blocks[3].End}
}

// results returns all results.
func (q question) results() []any {
	type result struct {
		N    int
		Is   bool
		Text string
		List []int
		Flow api.Flow
		Ran  api.Ran
		Err  api.Errno
	}
	var l []any
	for i, do := range []func() result{
		func() (r result) { r.Err = flow.Check(q.f); return },
		func() (r result) { r.N, r.Err = flow.CheckAll(q.l); return },
		func() (r result) { r.Ran, r.Err = flow.Run(q.l, q.name, q.args, q.steps); return },
		func() (r result) { r.List, r.Err = flow.Behind(q.f, q.block); return },
		func() (r result) { r.List, r.Err = flow.Ahead(q.f, q.block); return },
		func() (r result) { r.List, r.N = flow.Reads(q.x), flow.Writes(q.x); return },
		func() (r result) { r.List, r.N = flow.ReadsEnd(q.e), flow.WritesEnd(q.e); return },
		func() (r result) { r.Is, r.Err = flow.Plain(q.f); return },
		func() (r result) { r.N, r.Err = flow.Size(q.f); return },
		func() (r result) { r.Flow, r.Err = flow.Renamed(q.f, q.to); return },
		func() (r result) { r.Flow, r.Err = flow.Moved(q.f, q.to); return },
		func() (r result) { r.Text, r.Err = flow.Write(q.f); return },
		func() (r result) { r.Flow, r.Err = flow.Read(q.text); return },
	} {
		r := do()
		if r.Err != api.OK && i != 1 && !same(r, result{Err: r.Err}) {
			l = append(l, fmt.Sprint("R2: ", r))
		}
		l = append(l, r)
	}
	return l
}

// R3, R4: arguments stay, results share no memory, and the same call returns the same, whatever became of earlier results.
func TestCallsLeaveArguments(t *testing.T) {
	q := newQuestion()
	before := newQuestion()
	first := q.results()
	for i, x := range first {
		if s := fmt.Sprint(x); !strings.HasSuffix(s, " 0}") {
			t.Errorf("no result %d: %s", i, s)
		}
	}
	if !reflect.DeepEqual(q, before) {
		t.Error("R3: the arguments were changed")
	}
	apart(t, "results and arguments", append(first, q.f, q.l, q.args, q.to, q.x, q.e)...)
	text := fmt.Sprint(first)
	for range 3 {
		again := q.results()
		if fmt.Sprint(again) != text {
			t.Errorf("R4: %v, not %v", again, first)
		}
		apart(t, "results of two calls", append(first, again...)...)
		for _, x := range again {
			spoil(reflect.ValueOf(x))
		}
	}
	if fmt.Sprint(first) != text || !reflect.DeepEqual(q, before) {
		t.Error("R3: memory is shared")
	}
}

// spoil overwrites all slices in a value, with all that they have room for.
func spoil(v reflect.Value) {
	switch v.Kind() {
	case reflect.Struct:
		for i := range v.NumField() {
			spoil(v.Field(i))
		}
	case reflect.Slice:
		for i := range v.Len() {
			spoil(v.Index(i))
		}
		v.Slice(0, v.Cap()).Clear()
	}
}

// roomy gives all slices in a value room for more, with something in it.
func roomy(v reflect.Value) {
	switch v.Kind() {
	case reflect.Struct:
		for i := range v.NumField() {
			roomy(v.Field(i))
		}
	case reflect.Slice:
		for i := range v.Len() {
			roomy(v.Index(i))
		}
		n := v.Len()
		more := reflect.MakeSlice(v.Type(), n+50, n+50)
		reflect.Copy(more, v)
		for i := n; i < n+50; i++ {
			fillAny(more.Index(i))
		}
		v.Set(more.Slice(0, n))
	}
}

func fillAny(v reflect.Value) {
	switch v.Kind() {
	case reflect.Int:
		v.SetInt(77)
	case reflect.Uint8:
		v.SetUint(77)
	case reflect.String:
		v.SetString("room")
	case reflect.Struct:
		for i := range v.NumField() {
			fillAny(v.Field(i))
		}
	}
}

// behindAll writes what lies behind all slices in a value.
func behindAll(v reflect.Value) string {
	s := ""
	switch v.Kind() {
	case reflect.Struct:
		for i := range v.NumField() {
			s += behindAll(v.Field(i))
		}
	case reflect.Slice:
		for i := range v.Len() {
			s += behindAll(v.Index(i))
		}
		s += fmt.Sprint(v.Slice(v.Len(), v.Cap()))
	}
	return s
}

// R3: what lies behind an argument in its memory stays too.
func TestMemoryBehindArguments(t *testing.T) {
	q := newQuestion()
	want := fmt.Sprint(q.results())
	held := []reflect.Value{reflect.ValueOf(&q.f).Elem(), reflect.ValueOf(&q.l).Elem(), reflect.ValueOf(&q.args).Elem(), reflect.ValueOf(&q.to).Elem(), reflect.ValueOf(&q.x).Elem(), reflect.ValueOf(&q.e).Elem()}
	before := ""
	for _, v := range held {
		roomy(v)
		before += behindAll(v)
	}
	if got := fmt.Sprint(q.results()); got != want {
		t.Errorf("R4: %s, not %s", got, want)
	}
	after := ""
	for _, v := range held {
		after += behindAll(v)
	}
	if after != before || !strings.Contains(before, "room") {
		t.Error("R3: what lies behind the arguments was changed")
	}
}

// R3: nil slices and empty ones are the same.
func TestEmptySlices(t *testing.T) {
	a := proc("p", "", block(ret(-1)), block(call("p", -1, 0)))
	b := copied(a)
	b.Regs, b.Slots, b.Signals = []uint8{}, []uint8{}, []string{}
	for i := range b.Blocks {
		x := &b.Blocks[i]
		x.Ins, x.End.Args, x.End.Whens, x.End.Ins.Args = []api.Ins{}, []int{}, []api.When{}, []int{}
	}
	q := newQuestion()
	q.f, q.l, q.name, q.args, q.to = a, []api.Flow{a}, "p", nil, nil
	want := fmt.Sprint(q.results())
	q.f, q.l, q.args, q.to = b, []api.Flow{b}, []int{}, []int{}
	if got := fmt.Sprint(q.results()); got != want || strings.Contains(got, "R2") {
		t.Errorf("R3: %s, not %s", got, want)
	}
	for _, l := range [][]api.Flow{nil, {}} {
		if at, e := flow.CheckAll(l); at != 0 || e != api.OK {
			t.Errorf("R3: %d, %d", at, e)
		}
	}
}

// R4: calls that run at once do not meet.
func TestCallsAtOnce(t *testing.T) {
	q := newQuestion()
	want := fmt.Sprint(q.results())
	done := make(chan bool)
	for range 8 {
		go func() {
			isSame := true
			for range 20 {
				isSame = isSame && fmt.Sprint(q.results()) == want
			}
			done <- isSame
		}()
	}
	for range 8 {
		if !<-done {
			t.Error("R4: the results are others")
		}
	}
}

// R1, R2: arguments of any sort: no call panics, and with an error there is nothing else.
func TestArgumentsOfAnySort(t *testing.T) {
	t.Parallel()
	numbers := func(r *rand.Rand) []int {
		var l []int
		for range r.IntN(8) {
			l = append(l, r.IntN(8), r.IntN(9)-4, -1<<63, 1<<62)
		}
		return l[:len(l)*r.IntN(2)]
	}
	trials(11, 500, func(r *rand.Rand, l []api.Flow) {
		l = slices.Clone(l)
		for range r.IntN(4) {
			i := r.IntN(len(l))
			l[i] = changed(r, l[i])
		}
		f := l[r.IntN(len(l))]
		q := question{f: f, l: l, name: anyName(r), text: anyName(r) + textOfMany[:r.IntN(len(textOfMany))], args: numbers(r), to: numbers(r), steps: r.IntN(200000) - 1000, block: r.IntN(20) - 5}
		if r.IntN(10) == 0 {
			q.f.Blocks = nil
		}
		q.x = api.Ins{Op: uint8(r.IntN(256)), To: -1 << 63, A: r.IntN(9) - 4, B: 1 << 62, Args: numbers(r)}
		q.e = api.End{Kind: uint8(r.IntN(12)), A: r.IntN(9) - 4, B: -1 << 63, Ins: q.x, Args: numbers(r)}
		for i, x := range q.results() {
			if s := fmt.Sprint(x); strings.HasPrefix(s, "R2") {
				t.Fatalf("R2: call %d: %s of %+v", i, s, q)
			}
		}
	})
}

// R1: lists of flows with any values in all fields.
func TestAnyValues(t *testing.T) {
	r := rand.New(rand.NewPCG(1, 8))
	n := func() int { return []int{0, 0, 1, 2, -1, 3, 1 << 62, -1 << 63}[r.IntN(8)] }
	list := func() []int { return []int{n(), n(), n()}[:r.IntN(4)] }
	for range 20000 {
		f := api.Flow{Name: anyName(r), Iter: r.IntN(2) == 0, Args: n(), Result: uint8(r.IntN(5)), Regs: []uint8{1, 2, 3, 1, 2, uint8(r.IntN(5))}[:r.IntN(7)], Slots: []uint8{1, 2, uint8(r.IntN(4))}[:r.IntN(4)]}
		for range r.IntN(4) {
			ins := func() api.Ins { return api.Ins{Op: uint8(r.IntN(40)), To: n(), A: n(), B: n(), N: n(), Args: list()} }
			b := api.Block{End: api.End{Kind: uint8(r.IntN(11)), A: n(), B: n(), To: n(), Else: n(), Name: anyName(r), Args: list(), Others: n()}}
			b.Ins = []api.Ins{ins(), ins()}[:r.IntN(3)]
			if r.IntN(2) == 0 {
				b.End.Ins = ins()
			}
			if r.IntN(2) == 0 {
				b.End.Whens = []api.When{{Name: anyName(r), To: n()}}
			}
			f.Blocks = append(f.Blocks, b)
		}
		if e := flow.Check(f); e != plainCheck(&f) {
			t.Fatalf("H1: %d, not %d: %+v", e, plainCheck(&f), f)
		}
		q := question{f: f, l: []api.Flow{f}, name: f.Name, args: list(), to: list(), steps: 10, block: n()}
		for i, x := range q.results() {
			if s := fmt.Sprint(x); strings.HasPrefix(s, "R2") {
				t.Fatalf("R2: call %d: %s of %+v", i, s, q)
			}
		}
	}
}
