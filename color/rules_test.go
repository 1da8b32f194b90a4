package color_test

import (
	"fmt"
	"math/rand/v2"
	"reflect"
	"slices"
	"strings"
	"testing"

	"argus/api"
	"argus/color"
	"argus/flow"
	"argus/sample"
	"argus/ssa"
)

// question is what the calls of the functions are given.
type question struct {
	form, plain api.Flow // the first one is to be in SSA form, the other one without phis and slots
	a, b        int
	kind        uint8
	c, l        []int
	words, refs int
}

// newQuestion has what all functions have a result for, and much to do.
func newQuestion() question {
	form := with(proc("p", "wrwwwwwwwrwwiw",
		block(caught(try(ins(api.TryAdd, 6, 2, 3), 1), "overflow", 3, "x", 5), number(2, 1), number(3, 2), move(4, 2), ins(api.InsLt, 5, 2, 3), move(9, 1), api.Ins{Op: api.InsSet, A: 9, B: 4}),
		block(branch(5, 2, 3), phi(7, 6), put(7)),
		block(caught(call("q", 8, 4, 9, 4, 6), "s", 3, "others", 4)),
		block(open("i", 12, 6, 9), phi(10, 0, 2, 4)),
		block(ret(4), phi(11, 0, 4, 3)),
		block(goTo(4), put(0)),
		block(caught(next(12, 13, 6, 4), "s", 4))), 2, 1)
	form.Signals, form.Slots = []string{"s"}, []uint8{1, 2}

	write, read := lots(5, 12)
	plain := with(proc("p", "wrwwi",
		block(open("i", 4, 1, 0, 1), write...),
		block(caught(next(4, 2, 2, 5), "s", 3)),
		block(caught(call("q", 3, 3, 0, 1), "x", 5), read[:60]...),
		block(branch(5, 1, 4), move(2, 5), move(5, 6), move(6, 2)),
		block(caught(try(api.Ins{Op: api.TryStore, A: 1, B: 5, Args: []int{6}}, 1), "bounds", 5, "others", 3), read[60:]...),
		block(ret(0))), 2, 1)
	plain.Signals = []string{"s"}
	for range 12 {
		plain.Regs = append(plain.Regs, api.RegWord)
	}
	colours, _ := color.Color(form)
	return question{form, copied(plain), 2, 4, api.RegWord, colours, []int{0, 2, 4}, 8, 9}
}

// results returns all results.
func (q question) results() []any {
	type result struct {
		Flow api.Flow
		List []int
		N    int
		Is   bool
		Err  api.Errno
	}
	var l []any
	for _, do := range []func() result{
		func() (r result) { r.Is, r.Err = color.Meet(q.form, q.a, q.b); return },
		func() (r result) { r.N, r.Err = color.Pressure(q.form, q.kind); return },
		func() (r result) { r.List, r.Err = color.Color(q.form); return },
		func() (r result) { r.Is, r.Err = color.CheckColor(q.form, q.c); return },
		func() (r result) { r.N, r.Err = color.Needs(q.form, q.c, q.kind); return },
		func() (r result) { r.List, r.Err = color.Crowd(q.form, q.kind); return },
		func() (r result) { r.Is, r.Err = color.CheckCrowd(q.form, q.kind, q.l); return },
		func() (r result) { r.Flow, r.Err = color.Spill(q.plain, q.words, q.refs); return },
		func() (r result) { r.Flow, r.Err = color.Allocate(q.plain, q.words, q.refs); return },
		func() (r result) { r.N, r.Err = color.Used(q.plain, q.kind); return },
	} {
		r := do()
		if r.Err != api.OK && !same(r, result{Err: r.Err}) {
			l = append(l, fmt.Sprint("R2: ", r))
		}
		l = append(l, r)
	}
	return l
}

// errors returns the errors that there are to be, by the chapter; where there may be too much, ErrLimit is as good as none.
func (q question) errors() []api.Errno {
	form, plain := ssa.Check(q.form), flow.Check(q.plain)
	first := func(l ...api.Errno) api.Errno {
		isError := func(e api.Errno) bool { return e != api.OK }
		if i := slices.IndexFunc(l, isError); i >= 0 {
			return l[i]
		}
		return api.OK
	}
	when := func(is bool, e api.Errno) api.Errno {
		if is {
			return e
		}
		return api.OK
	}
	hasNo := func(reg int) bool { return reg < 0 || reg >= len(q.form.Regs) }
	kind := when(q.kind < 1 || q.kind > 3, api.ErrArg)
	colours, slots := api.OK, api.OK
	if form == api.OK {
		colours = when(!newPlain(q.form).isRight(q.c), api.ErrArg)
	}
	if plain == api.OK {
		isPlain, _ := flow.Plain(q.plain)
		slots = first(when(!isPlain, api.ErrPhi), when(len(q.plain.Slots) > 0, api.ErrArg), when(q.words < 8 || q.refs < 8, api.ErrFew))
	}
	asked := first(form, kind)
	return []api.Errno{first(form, when(hasNo(q.a) || hasNo(q.b), api.ErrArg)), asked, form, form, first(asked, colours), asked, asked,
		first(plain, slots), first(plain, slots), first(plain, kind)}
}

// R3, R4: arguments stay, results share no memory, and the same call returns the same, whatever became of earlier results.
func TestCallsLeaveArguments(t *testing.T) {
	q, before := newQuestion(), newQuestion()
	first := q.results()
	for i, x := range first {
		if s := fmt.Sprint(x); !strings.HasSuffix(s, " 0}") || strings.HasSuffix(s, " [] 0 false 0}") && !strings.Contains(s, "failure") && i != 7 && i != 8 {
			t.Errorf("no result %d: %s", i, s)
		}
	}
	if !reflect.DeepEqual(q, before) {
		t.Error("R3: the arguments were changed")
	}
	liesApart(t, "results and arguments", append(first, q.form, q.plain, q.c, q.l)...)
	text := fmt.Sprint(first)
	for range 3 {
		again := q.results()
		if fmt.Sprint(again) != text {
			t.Errorf("R4: %v, not %v", again, first)
		}
		liesApart(t, "results of two calls", append(first, again...)...)
		for _, x := range again {
			spoil(reflect.ValueOf(x))
		}
	}
	if fmt.Sprint(first) != text || !reflect.DeepEqual(q, before) {
		t.Error("R3: memory is shared")
	}
}

// R3: the results of flows by chance share no memory.
func TestMemoryByChance(t *testing.T) {
	t.Parallel()
	crowded(t, 21, 300, 12, func(r *rand.Rand, l []api.Flow, i int) {
		q := question{form: formOf(t, l[i]), plain: copiedFlow(l[i]), kind: api.RegWord, words: 8, refs: 8}
		q.c, _ = color.Color(q.form)
		before := fmt.Sprint(q)
		liesApart(t, "results and arguments", append(q.results(), q.form, q.plain, q.c)...)
		if fmt.Sprint(q) != before {
			t.Fatalf("R3: %v, not %s", q, before)
		}
	})
}

// spoil overwrites all slices in a value, with all that they have room for.
func spoil(v reflect.Value) {
	switch v.Kind() {
	case reflect.Struct:
		for i := range v.NumField() {
			spoil(v.Field(i))
		}
	case reflect.Slice:
		for i := range v.Len() {
			spoil(v.Index(i))
		}
		v.Slice(0, v.Cap()).Clear()
	}
}

// roomy gives all slices in a value room for more, with something in it.
func roomy(v reflect.Value) {
	switch v.Kind() {
	case reflect.Struct:
		for i := range v.NumField() {
			roomy(v.Field(i))
		}
	case reflect.Slice:
		for i := range v.Len() {
			roomy(v.Index(i))
		}
		n := v.Len()
		more := reflect.MakeSlice(v.Type(), n+50, n+50)
		reflect.Copy(more, v)
		for i := n; i < n+50; i++ {
			fillAny(more.Index(i))
		}
		v.Set(more.Slice(0, n))
	}
}

func fillAny(v reflect.Value) {
	switch v.Kind() {
	case reflect.Int:
		v.SetInt(77)
	case reflect.Uint8:
		v.SetUint(77)
	case reflect.String:
		v.SetString("room")
	case reflect.Struct:
		for i := range v.NumField() {
			fillAny(v.Field(i))
		}
	}
}

// behindAll writes what lies behind all slices in a value.
func behindAll(v reflect.Value) string {
	s := ""
	switch v.Kind() {
	case reflect.Struct:
		for i := range v.NumField() {
			s += behindAll(v.Field(i))
		}
	case reflect.Slice:
		for i := range v.Len() {
			s += behindAll(v.Index(i))
		}
		s += fmt.Sprint(v.Slice(v.Len(), v.Cap()))
	}
	return s
}

// R3: what lies behind an argument in its memory stays too.
func TestMemoryBehindArguments(t *testing.T) {
	q := newQuestion()
	want := fmt.Sprint(q.results())
	var held []reflect.Value
	for _, p := range []any{&q.form, &q.plain, &q.c, &q.l} {
		held = append(held, reflect.ValueOf(p).Elem())
	}
	before := ""
	for _, v := range held {
		roomy(v)
		before += behindAll(v)
	}
	if got := fmt.Sprint(q.results()); got != want {
		t.Errorf("R4: %s, not %s", got, want)
	}
	after := ""
	for _, v := range held {
		after += behindAll(v)
	}
	if after != before || !strings.Contains(before, "room") {
		t.Error("R3: what lies behind the arguments was changed")
	}
}

// R3: nil slices and empty ones are the same.
func TestEmptySlices(t *testing.T) {
	a := proc("p", "", block(goTo(1)), block(ret(-1)))
	b := copied(a)
	b.Regs, b.Slots, b.Signals = []uint8{}, []uint8{}, []string{}
	for i := range b.Blocks {
		x := &b.Blocks[i]
		x.Ins, x.End.Args, x.End.Whens, x.End.Ins.Args = []api.Ins{}, []int{}, []api.When{}, []int{}
	}
	want := fmt.Sprint(question{form: a, plain: a, kind: 1, words: 8, refs: 8}.results())
	q := question{form: b, plain: b, kind: 1, c: []int{}, l: []int{}, words: 8, refs: 8}
	if got := fmt.Sprint(q.results()); got != want || strings.Contains(got, "R2") || strings.Count(got, "true") != 2 {
		t.Errorf("R3: %s, not %s", got, want)
	}
}

// R4: calls that run at once do not meet.
func TestCallsAtOnce(t *testing.T) {
	q := newQuestion()
	want := fmt.Sprint(q.results())
	done := make(chan bool)
	for range 8 {
		go func() {
			isSame := true
			for range 20 {
				isSame = isSame && fmt.Sprint(q.results()) == want
			}
			done <- isSame
		}()
	}
	for range 8 {
		if !<-done {
			t.Error("R4: the results are others")
		}
	}
}

// someQuestion returns what flows by chance are asked.
func someQuestion(r *rand.Rand, f api.Flow) question {
	n := len(f.Regs)
	q := question{form: f, plain: f, a: r.IntN(n), b: r.IntN(n), kind: uint8(1 + r.IntN(3)), words: 8 + r.IntN(3), refs: 8 + r.IntN(3)}
	q.c, _ = color.Color(f)
	if r.IntN(2) == 0 {
		m := sample.Flows{Chance: r, Phis: r.IntN(3) == 0, Slots: r.IntN(3) == 0}
		q.plain = m.List()[0]
	}
	switch r.IntN(12) {
	case 0:
		q.a = sample.Pick(r, -1, n, 1<<62, -1<<63)
	case 1:
		q.b = sample.Pick(r, -1, n, 1<<62, -1<<63)
	case 2:
		q.kind = sample.Pick[uint8](r, 0, 4, 255)
	case 3:
		q.c = otherColours(r, f, q.c)
	case 4:
		q.words = sample.Pick(r, 7, 0, -1<<63)
	case 5:
		q.refs = sample.Pick(r, 7, 0, -1<<63)
	}
	if r.IntN(2) == 0 {
		q.l = []int{q.a, q.b, -1, n}[:r.IntN(5)]
	}
	for range r.IntN(3) {
		q.form = sample.Changed(r, q.form)
	}
	for range r.IntN(3) {
		q.plain = sample.Changed(r, q.plain)
	}
	if r.IntN(20) == 0 {
		q.form.Blocks, q.plain.Blocks = nil, nil
	}
	return q
}

// R1, R2: flows and arguments of any sort: no call panics, the errors are those that there are to be, and with an error there is
// nothing else.
func TestArgumentsOfAnySort(t *testing.T) {
	t.Parallel()
	seen := map[api.Errno]int{}
	forms(t, 22, 1000, func(r *rand.Rand, f api.Flow) {
		q := someQuestion(r, f)
		want := q.errors()
		for i, x := range q.results() {
			if s := fmt.Sprint(x); strings.HasPrefix(s, "R2") {
				t.Fatalf("R2: call %d: %s of %+v", i, s, q)
			}
			got := api.Errno(reflect.ValueOf(x).FieldByName("Err").Int())
			if got != want[i] {
				t.Fatalf("R1: call %d: %d, not %d of %+v", i, got, want[i], q)
			}
			seen[got]++
		}
	})
	for _, e := range []api.Errno{api.OK, api.ErrArg, api.ErrFlow, api.ErrRead, api.ErrSsa, api.ErrPhi, api.ErrFew} {
		if seen[e] < 20 {
			t.Errorf("%v", seen)
		}
	}
}
