package share_test

import (
	"fmt"
	"math/rand/v2"
	"reflect"
	"slices"
	"strings"
	"testing"

	"argus/api"
	"argus/flow"
	"argus/sample"
	"argus/share"
)

// question is what the calls of the functions are given.
type question struct {
	l    []api.Flow
	f    api.Flow
	c    [][]int
	a, b int
	way  []int
	keep []string
}

// newQuestion has what all functions have a result for, and much to do.
func newQuestion() question {
	l := busy()
	x, y := copied(l[1]), copied(l[1])
	x.Name, y.Name = "x", "y"
	y.Blocks[7].End.Name = "x"
	z := copied(l[1])
	z.Name, z.Blocks[7].End.Name = "z", "zz"
	zz := copied(l[1])
	zz.Name, zz.Slots = "zz", []uint8{2, 2}
	l = append(l, x, y, z, zz)
	return question{l, copied(x), [][]int{{0}, {1, 3, 4}, {2}, {5}, {6}}, 1, 5, []int{2}, []string{"y", "z", "y"}}
}

// results returns all results.
func (q question) results() []any {
	type result struct {
		Flows   []api.Flow
		Names   []string
		Text    string
		Classes [][]int
		Way     []int
		Is      bool
		Err     api.Errno
	}
	var l []any
	for _, do := range []func() result{
		func() (r result) { r.Names, r.Err = share.Calls(q.f); return },
		func() (r result) { r.Text, r.Err = share.Shape(q.f); return },
		func() (r result) { r.Classes, r.Err = share.Classes(q.l); return },
		func() (r result) { r.Is, r.Err = share.CheckClasses(q.l, q.c); return },
		func() (r result) { r.Way, r.Is, r.Err = share.Apart(q.l, q.a, q.b); return },
		func() (r result) { r.Is, r.Err = share.CheckApart(q.l, q.a, q.b, q.way); return },
		func() (r result) { r.Flows, r.Err = share.Merge(q.l, q.keep); return },
		func() (r result) { r.Names, r.Err = share.Names(q.l, q.keep); return },
	} {
		r := do()
		if r.Err != api.OK && !same(r, result{Err: r.Err}) || !r.Is && len(r.Way) > 0 {
			l = append(l, fmt.Sprint("R2: ", r))
		}
		l = append(l, r)
	}
	return l
}

// errors returns the errors that there are to be, by the chapter.
func (q question) errors() []api.Errno {
	one := flow.Check(q.f)
	_, all := flow.CheckAll(q.l)
	index, keep := all, all
	if all == api.OK {
		for _, i := range []int{q.a, q.b} {
			if i < 0 || i >= len(q.l) {
				index = api.ErrArg
			}
		}
		for _, name := range q.keep {
			if !slices.ContainsFunc(q.l, func(f api.Flow) bool { return f.Name == name }) {
				keep = api.ErrNone
			}
		}
		if len(q.keep) > 60 {
			keep = api.ErrLimit
		}
	}
	return []api.Errno{one, one, all, all, index, index, keep, keep}
}

// R3, R4: arguments stay, results share no memory, and the same call returns the same, whatever became of earlier results.
func TestCallsLeaveArguments(t *testing.T) {
	q, before := newQuestion(), newQuestion()
	first := q.results()
	for i, x := range first {
		if s := fmt.Sprint(x); !strings.HasSuffix(s, " 0}") || s == "{[] []  [] [] false 0}" {
			t.Errorf("no result %d: %s", i, s)
		}
	}
	if !reflect.DeepEqual(q, before) {
		t.Error("R3: the arguments were changed")
	}
	held := []any{q.l, q.f, q.c, q.way, q.keep}
	liesApart(t, "results and arguments", append(first, held...)...)
	text := fmt.Sprint(first)
	for range 3 {
		again := q.results()
		if fmt.Sprint(again) != text {
			t.Errorf("R4: %v, not %v", again, first)
		}
		liesApart(t, "results of two calls", append(first, again...)...)
		for _, x := range again {
			spoil(reflect.ValueOf(x))
		}
	}
	if fmt.Sprint(first) != text || !reflect.DeepEqual(q, before) {
		t.Error("R3: memory is shared")
	}
}

// someQuestion returns what lists by chance are asked.
func someQuestion(r *rand.Rand, l []api.Flow) question {
	q := question{l: copied(l), a: r.IntN(len(l) + 1), b: r.IntN(len(l) + 1), keep: someKeep(r, l)}
	if len(l) > 0 {
		q.f = copied(l[r.IntN(len(l))])
	}
	q.way, _, _ = share.Apart(l, q.a, q.b)
	q.c, _ = share.Classes(l)
	return q
}

// R3: the results of lists by chance share no memory.
func TestMemoryByChance(t *testing.T) {
	t.Parallel()
	lists(t, 21, 300, func(r *rand.Rand, l []api.Flow) {
		q := someQuestion(r, l)
		before := fmt.Sprint(q)
		liesApart(t, "results and arguments", append(q.results(), q.l, q.f, q.c, q.way, q.keep)...)
		if fmt.Sprint(q) != before {
			t.Fatalf("R3: %v, not %s", q, before)
		}
	})
}

// spoil overwrites all slices in a value, with all that they have room for.
func spoil(v reflect.Value) {
	switch v.Kind() {
	case reflect.Struct:
		for i := range v.NumField() {
			spoil(v.Field(i))
		}
	case reflect.Slice:
		for i := range v.Len() {
			spoil(v.Index(i))
		}
		v.Slice(0, v.Cap()).Clear()
	}
}

// roomy gives all slices in a value room for more, with something in it.
func roomy(v reflect.Value) {
	switch v.Kind() {
	case reflect.Struct:
		for i := range v.NumField() {
			roomy(v.Field(i))
		}
	case reflect.Slice:
		for i := range v.Len() {
			roomy(v.Index(i))
		}
		n := v.Len()
		more := reflect.MakeSlice(v.Type(), n+50, n+50)
		reflect.Copy(more, v)
		for i := n; i < n+50; i++ {
			fillAny(more.Index(i))
		}
		v.Set(more.Slice(0, n))
	}
}

func fillAny(v reflect.Value) {
	switch v.Kind() {
	case reflect.Int:
		v.SetInt(77)
	case reflect.Uint8:
		v.SetUint(77)
	case reflect.String:
		v.SetString("room")
	case reflect.Struct:
		for i := range v.NumField() {
			fillAny(v.Field(i))
		}
	}
}

// behindAll writes what lies behind all slices in a value.
func behindAll(v reflect.Value) string {
	s := ""
	switch v.Kind() {
	case reflect.Struct:
		for i := range v.NumField() {
			s += behindAll(v.Field(i))
		}
	case reflect.Slice:
		for i := range v.Len() {
			s += behindAll(v.Index(i))
		}
		s += fmt.Sprint(v.Slice(v.Len(), v.Cap()))
	}
	return s
}

// R3: what lies behind an argument in its memory stays too.
func TestMemoryBehindArguments(t *testing.T) {
	q := newQuestion()
	want := fmt.Sprint(q.results())
	var held []reflect.Value
	for _, p := range []any{&q.l, &q.f, &q.c, &q.way, &q.keep} {
		held = append(held, reflect.ValueOf(p).Elem())
	}
	before := ""
	for _, v := range held {
		roomy(v)
		before += behindAll(v)
	}
	if got := fmt.Sprint(q.results()); got != want {
		t.Errorf("R4: %s, not %s", got, want)
	}
	after := ""
	for _, v := range held {
		after += behindAll(v)
	}
	if after != before || !strings.Contains(before, "room") {
		t.Error("R3: what lies behind the arguments was changed")
	}
}

// R3: nil slices and empty ones are the same, also where they stand in two flows of one shape.
func TestEmptySlices(t *testing.T) {
	a := []api.Flow{calling("p", "q"), calling("q", "p")}
	b := copied(a)
	for i := range b {
		f := &b[i]
		f.Regs, f.Slots, f.Signals = []uint8{}, []uint8{}, []string{}
		for j := range f.Blocks {
			x := &f.Blocks[j]
			x.Ins, x.End.Args, x.End.Whens, x.End.Ins.Args = []api.Ins{}, []int{}, []api.When{}, []int{}
		}
	}
	want := fmt.Sprint(question{l: a, f: a[0], b: 1}.results())
	for _, l := range [][]api.Flow{b, {a[0], b[1]}, {b[0], a[1]}} {
		q := question{l: l, f: b[0], c: [][]int{}, b: 1, way: []int{}, keep: []string{}}
		if got := fmt.Sprint(q.results()); got != want || strings.Contains(got, "R2") || !strings.Contains(got, "[[0 1]]") {
			t.Errorf("R3: %s, not %s", got, want)
		}
	}
	if is, e := share.CheckClasses([]api.Flow{a[0], b[1]}, [][]int{{0, 1}}); e != api.OK || !is {
		t.Errorf("R3: %v, %d", is, e)
	}
}

// R4: calls that run at once do not meet.
func TestCallsAtOnce(t *testing.T) {
	q := newQuestion()
	want := fmt.Sprint(q.results())
	done := make(chan bool)
	for range 8 {
		go func() {
			isSame := true
			for range 20 {
				isSame = isSame && fmt.Sprint(q.results()) == want
			}
			done <- isSame
		}()
	}
	for range 8 {
		if !<-done {
			t.Error("R4: the results are others")
		}
	}
}

// R1, R2: lists and arguments of any sort: no call panics, the errors are those that there are to be, and with an error there is nothing else.
func TestArgumentsOfAnySort(t *testing.T) {
	t.Parallel()
	seen := map[api.Errno]int{}
	lists(t, 22, 3000, func(r *rand.Rand, l []api.Flow) {
		q := someQuestion(r, l)
		for i := range q.l {
			if r.IntN(2*len(l)) == 0 {
				q.l[i] = sample.Changed(r, q.l[i])
			}
		}
		for range r.IntN(3) {
			q.f = sample.Changed(r, q.f)
		}
		switch r.IntN(12) {
		case 0:
			r.Shuffle(len(q.l), func(i, j int) { q.l[i], q.l[j] = q.l[j], q.l[i] })
		case 1:
			q.l = slices.Repeat(l, 70)
		case 2:
			q.keep = append(q.keep, sample.Pick(r, "", "none", "_", strings.Repeat("n", 200)))
		case 3:
			q.keep = slices.Repeat(append(q.keep, "a"), 61)
		case 4:
			q.a = sample.Pick(r, -1, 1<<62, -1<<63)
		case 5:
			q.b = sample.Pick(r, -1, 1<<62, -1<<63)
		}
		if r.IntN(2) == 0 {
			q.c, q.way = otherClasses(r, q.c, len(l)), otherWay(r, q.way)
		}
		want := q.errors()
		for i, x := range q.results() {
			if s := fmt.Sprint(x); strings.HasPrefix(s, "R2") {
				t.Fatalf("R2: call %d: %s of %+v", i, s, q)
			}
			got := api.Errno(reflect.ValueOf(x).FieldByName("Err").Int())
			if got != want[i] {
				t.Fatalf("R1: call %d: %d, not %d of %+v", i, got, want[i], q)
			}
			seen[got]++
		}
	})
	for _, e := range []api.Errno{api.OK, api.ErrArg, api.ErrLimit, api.ErrNone, api.ErrFlow, api.ErrRead, api.ErrCall} {
		if seen[e] < 20 {
			t.Errorf("%v", seen)
		}
	}
}
