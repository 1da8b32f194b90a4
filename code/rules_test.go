package code_test

import (
	"fmt"
	"math/rand/v2"
	"reflect"
	"strings"
	"testing"

	"argus/api"
	"argus/code"
	"argus/flow"
	"argus/sample"
)

// question is what the calls of the functions are given.
type question struct {
	f     api.Flow
	o     api.Object
	b     []byte
	name  string
	names []string
}

// newQuestion has what all functions have a result for, and much to do.
func newQuestion() question {
	f := busy()
	o, _ := code.Encode(f)
	b := numbered(o, func(i int) int { return i })
	return question{f, o, b, "main", []string{"q", "set$each", "main", "q"}}
}

// results returns all results.
func (q question) results() []any {
	type result struct {
		Flow   api.Flow
		Object api.Object
		Head   api.Head
		List   []int
		N      int
		Err    api.Errno
	}
	var l []any
	for _, do := range []func() result{
		func() (r result) { r.Object, r.Err = code.Encode(q.f); return },
		func() (r result) { r.N, r.Err = code.Length(q.f); return },
		func() (r result) { r.Flow, r.Err = code.Decode(q.o); return },
		func() (r result) { r.List, r.Err = code.Calls(q.b); return },
		func() (r result) { r.List, r.Err = code.Blocks(q.b); return },
		func() (r result) { r.Head, r.Err = code.Front(q.b); return },
		func() (r result) { r.Flow, r.Err = code.Back(q.name, q.b, q.names); return },
	} {
		r := do()
		if r.Err != api.OK && !same(r, result{Err: r.Err}) {
			l = append(l, fmt.Sprint("R2: ", r))
		}
		l = append(l, r)
	}
	return l
}

// errors returns the errors that there are to be, by the chapter.
func (q question) errors() []api.Errno {
	length := flow.Check(q.f)
	if isPlain, e := flow.Plain(q.f); e == api.OK && !isPlain {
		length = api.ErrArg
	}
	encode, decode, read := length, api.OK, api.OK
	if length == api.OK && len(plainCode(q.f).code) > 20000 {
		encode = api.ErrLimit
	}
	if _, is := plainDecode(q.o); !is {
		decode = api.ErrCode
	}
	if _, _, is := plainRead(q.b); !is {
		read = api.ErrCode
	}
	_, back := plainBack(q.name, q.b, q.names)
	return []api.Errno{encode, length, decode, read, read, read, back}
}

// R3, R4: arguments stay, results share no memory, and the same call returns the same, whatever became of earlier results.
func TestCallsLeaveArguments(t *testing.T) {
	q, before := newQuestion(), newQuestion()
	first := q.results()
	for i, x := range first {
		if v := reflect.ValueOf(x); v.FieldByName("Err").Int() != 0 || v.IsZero() {
			t.Errorf("no result %d: %v", i, x)
		}
	}
	if !reflect.DeepEqual(q, before) {
		t.Error("R3: the arguments were changed")
	}
	liesApart(t, "results and arguments", append(first, q.f, q.o, q.b, q.names)...)
	text := fmt.Sprint(first)
	for range 3 {
		again := q.results()
		if fmt.Sprint(again) != text {
			t.Errorf("R4: %v, not %v", again, first)
		}
		liesApart(t, "results of two calls", append(first, again...)...)
		for _, x := range again {
			spoil(reflect.ValueOf(x))
		}
	}
	if fmt.Sprint(first) != text || !reflect.DeepEqual(q, before) {
		t.Error("R3: memory is shared")
	}
}

// someQuestion returns what flows by chance are asked.
func someQuestion(r *rand.Rand, f api.Flow, o api.Object) question {
	names := append(someNames(r, 3), routines(f)...)
	b := numbered(o, func(int) int { return r.IntN(len(names)) })
	return question{copied(f), copied(o), b, someNames(r, 1)[0], names}
}

// R3: the results of flows by chance share no memory.
func TestMemoryByChance(t *testing.T) {
	t.Parallel()
	objects(t, 21, 500, func(r *rand.Rand, f api.Flow, o api.Object) {
		q := someQuestion(r, f, o)
		before := fmt.Sprint(q)
		liesApart(t, "results and arguments", append(q.results(), q.f, q.o, q.b, q.names)...)
		if fmt.Sprint(q) != before {
			t.Fatalf("R3: %v, not %s", q, before)
		}
	})
}

// spoil overwrites all slices in a value, with all that they have room for.
func spoil(v reflect.Value) {
	switch v.Kind() {
	case reflect.Struct:
		for i := range v.NumField() {
			spoil(v.Field(i))
		}
	case reflect.Slice:
		for i := range v.Len() {
			spoil(v.Index(i))
		}
		v.Slice(0, v.Cap()).Clear()
	}
}

// roomy gives all slices in a value room for more, with something in it.
func roomy(v reflect.Value) {
	switch v.Kind() {
	case reflect.Struct:
		for i := range v.NumField() {
			roomy(v.Field(i))
		}
	case reflect.Slice:
		for i := range v.Len() {
			roomy(v.Index(i))
		}
		n := v.Len()
		more := reflect.MakeSlice(v.Type(), n+50, n+50)
		reflect.Copy(more, v)
		for i := n; i < n+50; i++ {
			fillAny(more.Index(i))
		}
		v.Set(more.Slice(0, n))
	}
}

func fillAny(v reflect.Value) {
	switch v.Kind() {
	case reflect.Int:
		v.SetInt(77)
	case reflect.Uint8:
		v.SetUint(77)
	case reflect.String:
		v.SetString("room")
	case reflect.Struct:
		for i := range v.NumField() {
			fillAny(v.Field(i))
		}
	}
}

// behindAll writes what lies behind all slices in a value.
func behindAll(v reflect.Value) string {
	s := ""
	switch v.Kind() {
	case reflect.Struct:
		for i := range v.NumField() {
			s += behindAll(v.Field(i))
		}
	case reflect.Slice:
		for i := range v.Len() {
			s += behindAll(v.Index(i))
		}
		s += fmt.Sprint(v.Slice(v.Len(), v.Cap()))
	}
	return s
}

// R3: what lies behind an argument in its memory stays too.
func TestMemoryBehindArguments(t *testing.T) {
	q := newQuestion()
	want := fmt.Sprint(q.results())
	var held []reflect.Value
	for _, p := range []any{&q.f, &q.o, &q.b, &q.names} {
		held = append(held, reflect.ValueOf(p).Elem())
	}
	before := ""
	for _, v := range held {
		roomy(v)
		before += behindAll(v)
	}
	if got := fmt.Sprint(q.results()); got != want {
		t.Errorf("R4: %s, not %s", got, want)
	}
	after := ""
	for _, v := range held {
		after += behindAll(v)
	}
	if after != before || !strings.Contains(before, "room") {
		t.Error("R3: what lies behind the arguments was changed")
	}
}

// R3: nil slices and empty ones are the same.
func TestEmptySlices(t *testing.T) {
	a := proc("p", "", block(goTo(1)), block(ret(-1)))
	b := copied(a)
	b.Regs, b.Slots, b.Signals = []uint8{}, []uint8{}, []string{}
	for i := range b.Blocks {
		x := &b.Blocks[i]
		x.Ins, x.End.Args, x.End.Whens, x.End.Ins.Args = []api.Ins{}, []int{}, []api.When{}, []int{}
	}
	o := must[api.Object](t, a)(code.Encode(a))
	full, empty := question{f: a, o: o, b: o.Code, name: "p"}, question{f: b, o: copied(o), b: o.Code, name: "p", names: []string{}}
	full.o.Relocs, empty.o.Relocs = nil, []api.Reloc{}
	want := fmt.Sprint(full.results())
	if got := fmt.Sprint(empty.results()); got != want || strings.Contains(got, "R2") {
		t.Errorf("R3: %s, not %s", got, want)
	}
	// No code, and nothing else.
	if none := (question{b: []byte{}, o: api.Object{Code: []byte{}}}); fmt.Sprint(none.results()) != fmt.Sprint(question{}.results()) {
		t.Errorf("R3: %v", none.results())
	}
}

// R4: calls that run at once do not meet.
func TestCallsAtOnce(t *testing.T) {
	q := newQuestion()
	want := fmt.Sprint(q.results())
	done := make(chan bool)
	for range 8 {
		go func() {
			isSame := true
			for range 20 {
				isSame = isSame && fmt.Sprint(q.results()) == want
			}
			done <- isSame
		}()
	}
	for range 8 {
		if !<-done {
			t.Error("R4: the results are others")
		}
	}
}

// R1, R2: flows and arguments of any sort: no call panics, the errors are those that there are to be, and with an error there is
// nothing else.
func TestArgumentsOfAnySort(t *testing.T) {
	t.Parallel()
	seen := map[api.Errno]int{}
	unwritten := sum()
	unwritten.Blocks[0].Ins = nil
	objects(t, 22, 3000, func(r *rand.Rand, f api.Flow, o api.Object) {
		q := someQuestion(r, f, o)
		if r.IntN(3) == 0 {
			m := sample.Flows{Chance: r, Phis: true, Slots: true}
			q.f = m.List()[0]
		}
		for range r.IntN(3) {
			q.f, q.o, q.b = sample.Changed(r, q.f), changedObject(r, q.o), changedBytes(r, q.b)
		}
		switch r.IntN(20) {
		case 0:
			q.f.Blocks, q.o.Code, q.b = nil, nil, nil
		case 1:
			q.f = long()
		case 2, 3, 4, 5:
			q.names = q.names[:r.IntN(len(q.names))]
		case 6:
			q.f = unwritten
		}
		want := q.errors()
		for i, x := range q.results() {
			if s := fmt.Sprint(x); strings.HasPrefix(s, "R2") {
				t.Fatalf("R2: call %d: %s of %+v", i, s, q)
			}
			got := api.Errno(reflect.ValueOf(x).FieldByName("Err").Int())
			if got != want[i] {
				t.Fatalf("R1: call %d: %d, not %d of %+v", i, got, want[i], q)
			}
			seen[got]++
		}
	})
	for _, e := range []api.Errno{api.OK, api.ErrArg, api.ErrLimit, api.ErrNone, api.ErrFlow, api.ErrRead, api.ErrCode} {
		if seen[e] < 20 {
			t.Errorf("%v", seen)
		}
	}
}
