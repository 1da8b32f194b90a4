package link_test

import (
	"fmt"
	"math/rand/v2"
	"reflect"
	"strings"
	"testing"

	"argus/api"
	"argus/link"
	"argus/sample"
)

// question is what the calls of the functions are given.
type question struct {
	o     api.Object
	l     []api.Object
	roots []string
	i     api.Image
	b     []byte
	name  string
	n     int
}

// newQuestion has what all functions have a result for.
func newQuestion() question {
	return question{
		o: exampleF(), l: examples(), roots: []string{"m", "g", "m"}, i: exampleImage(), b: plainWrite(exampleImage()), name: "m", n: 2,
	}
}

// result is what some function returns.
type result struct {
	Objects []api.Object
	Image   api.Image
	Names   []string
	Bytes   []byte
	N       int
	Is      bool
	Err     api.Errno
}

// results returns all results.
func (q question) results() []any {
	var l []any
	for _, do := range []func() result{
		func() (r result) { r.Err = link.Check(q.o); return },
		func() (r result) { r.N, r.Err = link.CheckAll(q.l); return },
		func() (r result) { r.Names, r.Err = link.Needs(q.o); return },
		func() (r result) { r.Names, r.Err = link.Reached(q.l, q.roots); return },
		func() (r result) { r.Names, r.Err = link.Missing(q.l, q.roots); return },
		func() (r result) { r.Image, r.Err = link.Link(q.l, q.roots); return },
		func() (r result) { r.Is, r.Err = link.CheckLink(q.l, q.roots, q.i); return },
		func() (r result) { r.Err = link.CheckImage(q.i); return },
		func() (r result) { r.N, r.Is, r.Err = link.Number(q.i, q.name); return },
		func() (r result) { r.Bytes, r.Err = link.Part(q.i, q.n); return },
		func() (r result) { r.Bytes, r.Err = link.Write(q.i); return },
		func() (r result) { r.Image, r.Err = link.Read(q.b); return },
		func() (r result) { r.Objects, r.Err = link.Without(q.l, q.roots); return },
	} {
		r := do()
		if none := (result{N: r.N, Err: r.Err}); r.Err != api.OK && (!same(r, none) || r.N != 0 && len(l) != 1) {
			l = append(l, fmt.Sprint("R2: ", r))
		}
		l = append(l, r)
	}
	return l
}

// errors returns the errors that there are to be, by the chapter.
func (q question) errors() []api.Errno {
	object, image, part, read := api.OK, api.OK, api.OK, api.OK
	if !plainObject(q.o) {
		object = api.ErrObject
	}
	_, all := plainAll(q.l)
	reached := all
	if all == api.OK && len(q.roots) > 60 {
		reached = api.ErrLimit
	}
	linked := reached
	if reached == api.OK && len(plainMissing(q.l, q.roots)) > 0 {
		linked = api.ErrMissing
	}
	if !plainImage(q.i) {
		image = api.ErrImage
	}
	switch {
	case image != api.OK:
		part = image
	case q.n < 0 || q.n >= len(q.i.Names):
		part = api.ErrArg
	}
	if _, is := plainRead(q.b); !is {
		read = api.ErrForm
	}
	return []api.Errno{object, all, object, reached, reached, linked, reached, image, image, part, image, read, linked}
}

// R3, R4: arguments stay, results share no memory, and the same call returns the same, whatever became of earlier results.
func TestCallsLeaveArguments(t *testing.T) {
	q, before := newQuestion(), newQuestion()
	first := q.results()
	for i, x := range first {
		if v := reflect.ValueOf(x); v.FieldByName("Err").Int() != 0 {
			t.Errorf("no result %d: %v", i, x)
		}
	}
	if !reflect.DeepEqual(q, before) {
		t.Error("R3: the arguments were changed")
	}
	liesApart(t, "results and arguments", append(first, q.o, q.l, q.roots, q.i, q.b)...)
	text := fmt.Sprint(first)
	for range 3 {
		again := q.results()
		if fmt.Sprint(again) != text {
			t.Errorf("R4: %v, not %v", again, first)
		}
		liesApart(t, "results of two calls", append(first, again...)...)
		for _, x := range again {
			spoil(reflect.ValueOf(x))
		}
	}
	if fmt.Sprint(first) != text || !reflect.DeepEqual(q, before) {
		t.Error("R3: memory is shared")
	}
}

// someQuestion returns what the functions are asked of a library by chance.
func someQuestion(r *rand.Rand, l []api.Object, names, roots []string) question {
	i := someImage(r)
	if linked, is := plainLink(l, roots); is && r.IntN(2) == 0 {
		i = linked
	}
	return question{someObject(r, someName(r), names), copied(l), copied(roots), i, plainWrite(i), someText(r), r.IntN(len(i.Names)+2) - 1}
}

// R3: the results of libraries by chance share no memory.
func TestMemoryByChance(t *testing.T) {
	t.Parallel()
	libraries(t, 21, 1000, func(r *rand.Rand, l []api.Object, names, roots []string) {
		q := someQuestion(r, l, names, roots)
		before := fmt.Sprint(q)
		liesApart(t, "results and arguments", append(q.results(), q.o, q.l, q.roots, q.i, q.b)...)
		if fmt.Sprint(q) != before {
			t.Fatalf("R3: %v, not %s", q, before)
		}
	})
}

// spoil overwrites all slices in a value, with all that they have room for.
func spoil(v reflect.Value) {
	switch v.Kind() {
	case reflect.Struct:
		for i := range v.NumField() {
			spoil(v.Field(i))
		}
	case reflect.Slice:
		for i := range v.Len() {
			spoil(v.Index(i))
		}
		v.Slice(0, v.Cap()).Clear()
	}
}

// roomy gives all slices in a value room for more, with something in it.
func roomy(v reflect.Value) {
	switch v.Kind() {
	case reflect.Struct:
		for i := range v.NumField() {
			roomy(v.Field(i))
		}
	case reflect.Slice:
		for i := range v.Len() {
			roomy(v.Index(i))
		}
		n := v.Len()
		more := reflect.MakeSlice(v.Type(), n+50, n+50)
		reflect.Copy(more, v)
		for i := n; i < n+50; i++ {
			fillAny(more.Index(i))
		}
		v.Set(more.Slice(0, n))
	}
}

func fillAny(v reflect.Value) {
	switch v.Kind() {
	case reflect.Int:
		v.SetInt(77)
	case reflect.Uint8:
		v.SetUint(77)
	case reflect.String:
		v.SetString("room")
	case reflect.Struct:
		for i := range v.NumField() {
			fillAny(v.Field(i))
		}
	}
}

// behindAll writes what lies behind all slices in a value.
func behindAll(v reflect.Value) string {
	s := ""
	switch v.Kind() {
	case reflect.Struct:
		for i := range v.NumField() {
			s += behindAll(v.Field(i))
		}
	case reflect.Slice:
		for i := range v.Len() {
			s += behindAll(v.Index(i))
		}
		s += fmt.Sprint(v.Slice(v.Len(), v.Cap()))
	}
	return s
}

// R3: what lies behind an argument in its memory stays too.
func TestMemoryBehindArguments(t *testing.T) {
	q := newQuestion()
	want := fmt.Sprint(q.results())
	var held []reflect.Value
	for _, p := range []any{&q.o, &q.l, &q.roots, &q.i, &q.b} {
		held = append(held, reflect.ValueOf(p).Elem())
	}
	before := ""
	for _, v := range held {
		roomy(v)
		before += behindAll(v)
	}
	if got := fmt.Sprint(q.results()); got != want {
		t.Errorf("R4: %s, not %s", got, want)
	}
	after := ""
	for _, v := range held {
		after += behindAll(v)
	}
	if after != before || !strings.Contains(before, "room") {
		t.Error("R3: what lies behind the arguments was changed")
	}
}

// R3: nil slices and empty ones are the same.
func TestEmptySlices(t *testing.T) {
	full := question{o: api.Object{Name: "a"}, l: []api.Object{{Name: "a"}}}
	empty := question{
		o: api.Object{Name: "a", Code: []byte{}, Relocs: []api.Reloc{}}, l: []api.Object{{Name: "a", Code: []byte{}, Relocs: []api.Reloc{}}},
		roots: []string{}, i: api.Image{Names: []string{}, Starts: []int{}, Code: []byte{}}, b: []byte{},
	}
	for _, roots := range [][]string{nil, {}, {"a"}} {
		full.roots, empty.roots = roots, roots
		want := fmt.Sprint(full.results())
		if got := fmt.Sprint(empty.results()); got != want || strings.Contains(got, "R2") {
			t.Errorf("R3: %s, not %s", got, want)
		}
	}
	if none := (question{l: []api.Object{}}); fmt.Sprint(none.results()) != fmt.Sprint(question{}.results()) {
		t.Errorf("R3: %v", none.results())
	}
}

// R4: calls that run at once do not meet.
func TestCallsAtOnce(t *testing.T) {
	q := newQuestion()
	want := fmt.Sprint(q.results())
	done := make(chan bool)
	for range 8 {
		go func() {
			isSame := true
			for range 20 {
				isSame = isSame && fmt.Sprint(q.results()) == want
			}
			done <- isSame
		}()
	}
	for range 8 {
		if !<-done {
			t.Error("R4: the results are others")
		}
	}
}

// R1, R2: arguments of any sort: no call panics, the errors are those that there are to be, and with an error there is nothing else.
func TestArgumentsOfAnySort(t *testing.T) {
	t.Parallel()
	seen := map[api.Errno]int{}
	libraries(t, 22, 5000, func(r *rand.Rand, l []api.Object, names, roots []string) {
		q := someQuestion(r, l, names, roots)
		for range r.IntN(3) {
			q.o, q.l, q.i, q.b = changedObject(r, q.o), changedLibrary(r, q.l), changedImage(r, q.i), changedBytes(r, q.b)
		}
		for r.IntN(20) == 0 && len(q.roots) < 70 {
			q.roots = append(q.roots, someRoots(r, append(names, someText(r)))...)
			if r.IntN(2) == 0 {
				q.roots = append(q.roots, make([]string, 61)...)
			}
		}
		if r.IntN(20) == 0 {
			q.n = sample.Pick(r, -1<<63, 1<<63-1, 60, 1<<32)
		}
		want := q.errors()
		for i, x := range q.results() {
			if s := fmt.Sprint(x); strings.HasPrefix(s, "R2") {
				t.Fatalf("R2: call %d: %s of %+v", i, s, q)
			}
			if got := x.(result).Err; got != want[i] {
				t.Fatalf("R1: call %d: %d, not %d of %+v", i, got, want[i], q)
			}
			seen[want[i]]++
		}
	})
	for _, e := range []api.Errno{api.OK, api.ErrArg, api.ErrLimit, api.ErrForm, api.ErrTwice, api.ErrMissing, api.ErrObject, api.ErrImage} {
		if seen[e] < 50 {
			t.Errorf("%v", seen)
		}
	}
}
