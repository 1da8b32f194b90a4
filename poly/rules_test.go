package poly_test

import (
	"fmt"
	"math/rand/v2"
	"reflect"
	"slices"
	"strings"
	"testing"

	"argus/api"
	"argus/check"
	"argus/poly"
	"argus/sample"
)

// question is what the calls of the functions are given.
type question struct {
	p    api.Program
	name string
	l, m []string
}

// newQuestion has what all functions have a result for.
func newQuestion(t *testing.T) question {
	p := programOf(t, sample.Town, `
proc start(n: int) returns bool signals (high, low) is
  var a: bag[int] := bag[int]$from(trio{int}(n, 2));
  for x: int in bag[int]$each(a) do put least{int}(x, 3); box[coin]$new(coin$make(true)) end;
  return bag[int]$holds(a, 1)
end`)
	return question{p, "start", list("start box[bool]"), all(t, p, "start", "box[bool]")}
}

// results returns all results.
func (q question) results() []any {
	type result struct {
		Is      bool
		Kind    uint8
		List    []string
		Program api.Program
		Err     api.Errno
	}
	var l []any
	for _, do := range []func() result{
		func() (r result) { r.Is, r.Err = poly.Start(q.p, q.name); return },
		func() (r result) { r.List, r.Err = poly.Uses(q.p, q.name); return },
		func() (r result) { r.List, r.Err = poly.All(q.p, q.l); return },
		func() (r result) { r.Is, r.Err = poly.CheckAll(q.p, q.l, q.m); return },
		func() (r result) { r.List, r.Err = poly.Names(q.p, q.m); return },
		func() (r result) { r.Program, r.Err = poly.Mono(q.p, q.l); return },
		func() (r result) { r.Err = poly.CheckMono(q.p); return },
		func() (r result) { r.Kind, r.Err = poly.KindOf(q.p, q.name); return },
	} {
		r := do()
		if r.Err != api.OK && !same(r, result{Err: r.Err}) {
			l = append(l, fmt.Sprint("R2: ", r))
		}
		l = append(l, r)
	}
	return l
}

// R3, R4: arguments stay, results share no memory, and the same call returns the same, whatever became of earlier results.
func TestCallsLeaveArguments(t *testing.T) {
	q := newQuestion(t)
	before := question{copied(q.p), q.name, copied(q.l), copied(q.m)}
	first := q.results()
	if want := "[{true 0 [] {[] [] []} 0} {false 0 [bag[int] box[coin] coin least[int] trio[int]] "; !strings.HasPrefix(fmt.Sprint(first), want) {
		t.Errorf("%v, not %s..", first, want)
	}
	if !reflect.DeepEqual(q, before) {
		t.Error("R3: the arguments were changed")
	}
	apart(t, "results and arguments", append(first, q.p, q.l, q.m)...)
	text := fmt.Sprint(first)
	for range 3 {
		again := q.results()
		if fmt.Sprint(again) != text {
			t.Errorf("R4: %v, not %v", again, first)
		}
		apart(t, "results of two calls", append(first, again...)...)
		for _, x := range again {
			spoil(reflect.ValueOf(x))
		}
	}
	if fmt.Sprint(first) != text || !reflect.DeepEqual(q, before) {
		t.Error("R3: memory is shared")
	}
}

// spoil overwrites all slices in a value, with all that they have room for.
func spoil(v reflect.Value) {
	switch v.Kind() {
	case reflect.Struct:
		for i := range v.NumField() {
			spoil(v.Field(i))
		}
	case reflect.Slice:
		for i := range v.Len() {
			spoil(v.Index(i))
		}
		v.Slice(0, v.Cap()).Clear()
	}
}

// R3: what lies behind an argument in its memory stays too.
func TestMemoryBehindArguments(t *testing.T) {
	q := newQuestion(t)
	want := fmt.Sprint(q.results())
	room := slices.Repeat([]string{"x"}, 50)
	q.l = append(slices.Clone(q.l), room...)[:len(q.l)]
	q.m = append(slices.Clone(q.m), room...)[:len(q.m)]
	for i := range q.p.Faces {
		f := &q.p.Faces[i]
		f.Ops = append(slices.Clone(f.Ops), api.Op{Name: "x"})[:len(f.Ops)]
		for k := range f.Ops {
			s := &f.Ops[k].Sig
			s.Args = append(slices.Clone(s.Args), "x", "y")[:len(s.Args)]
			s.Signals = append(slices.Clone(s.Signals), "x", "y")[:len(s.Signals)]
		}
	}
	if got := fmt.Sprint(q.results()); got != want {
		t.Errorf("R4: %s, not %s", got, want)
	}
	for _, l := range [][]string{q.l, q.m} {
		if behind := l[len(l):][:50]; !slices.Equal(behind, room) {
			t.Errorf("R3: %v", behind)
		}
	}
	for _, f := range q.p.Faces {
		for _, o := range f.Ops {
			if n := len(o.Sig.Args); show(o.Sig.Args[n:n+2]) != "x y" {
				t.Errorf("R3: %v", o.Sig.Args[:n+2])
			}
			if n := len(o.Sig.Signals); show(o.Sig.Signals[n:n+2]) != "x y" {
				t.Errorf("R3: %v", o.Sig.Signals[:n+2])
			}
		}
	}
}

// R3: nil slices and empty ones are the same.
func TestEmptySlices(t *testing.T) {
	p := programOf(t, "proc p() is end")
	p.Faces[0].Needs = []api.Need{}
	p.Faces[0].Ops[0].Sig.Args = []string{}
	p.Cores[0].Slots = []string{}
	p.Cores[0].Sig.Signals = []string{}
	plain := programOf(t, "proc p() is end")
	for _, l := range [][]string{nil, {}, {"p"}} {
		if a, b := (question{p, "p", l, l}).results(), (question{plain, "p", l, l}).results(); fmt.Sprint(a) != fmt.Sprint(b) {
			t.Errorf("R3: %v, not %v", a, b)
		}
	}
	for _, none := range []api.Program{{}, {Faces: []api.Face{}, Reps: []string{}, Cores: []api.Core{}}} {
		for _, l := range [][]string{nil, {}} {
			q, e := poly.Mono(none, l)
			is, f := poly.CheckAll(none, l, l)
			all, g := poly.All(none, l)
			names, h := poly.Names(none, l)
			if !same(q, api.Program{}) || !is || len(all)+len(names) > 0 || e != api.OK || f != api.OK || g != api.OK || h != api.OK {
				t.Errorf("R3: %v, %v, %q, %q, %d, %d, %d, %d", q, is, all, names, e, f, g, h)
			}
		}
	}
}

// R4: calls that run at once do not meet.
func TestCallsAtOnce(t *testing.T) {
	q := newQuestion(t)
	want := fmt.Sprint(q.results())
	done := make(chan bool)
	for range 8 {
		go func() {
			isSame := true
			for range 5 {
				isSame = isSame && fmt.Sprint(q.results()) == want
			}
			done <- isSame
		}()
	}
	for range 8 {
		if !<-done {
			t.Error("R4: the results are others")
		}
	}
}

// R1, R2: arguments of any sort: no call panics, and with an error there is nothing else.
func TestArgumentsOfAnySort(t *testing.T) {
	t.Parallel()
	r := rand.New(rand.NewPCG(1, 7))
	p := programOf(t, set, start, "proc p[t]() is p{array[?t]}() end iter q[t](a: ?t) yields array[?t] is end")
	text := func() string {
		return sample.Pick(r, "", "int", "main", "set", "p", "q", "set[int]", "p[int]", "q[set[int]]", "set[?t]", "array[int]", "set[set[int]]", "\xff", "set[", "]", "p["+deepArg+"]", "q["+longArg+"]", strings.Repeat("p[", 1000), strings.Repeat("a", 1<<16))
	}
	texts := func() []string {
		var l []string
		for range sample.Pick(r, 0, 1, 1, 2, 3, 25) {
			l = append(l, text())
		}
		if r.IntN(2) == 0 {
			slices.Sort(l)
		}
		return l
	}
	for range 3000 {
		q := question{p, text(), texts(), texts()}
		switch r.IntN(4) {
		case 0:
			q.p = copied(p)
			bend(r, &q.p, text())
		case 1:
			q.p = api.Program{Cores: p.Cores, Faces: p.Faces[:r.IntN(3)]}
		}
		isValid := check.CheckProgram(q.p) == api.OK
		for i, x := range q.results() {
			s := fmt.Sprint(x)
			if strings.HasPrefix(s, "R2") || !isValid && !strings.HasSuffix(s, fmt.Sprintf(" %d}", api.ErrProgram)) {
				t.Fatalf("R2: call %d: %s of %v", i, s, q)
			}
		}
	}
}

// bend changes something in a program.
func bend(r *rand.Rand, p *api.Program, text string) {
	c := &p.Cores[r.IntN(len(p.Cores))]
	n := &c.Nodes[r.IntN(len(c.Nodes))]
	f := &p.Faces[r.IntN(len(p.Faces))]
	switch r.IntN(8) {
	case 0:
		n.Type = text
	case 1:
		n.Var = text
	case 2:
		n.Kind = uint8(r.IntN(40))
	case 3:
		n.N = r.IntN(5) - 1
	case 4:
		f.Param = !f.Param
	case 5:
		f.Name = text
	case 6:
		p.Reps[r.IntN(len(p.Reps))] = text
	default:
		c.Slots = append(c.Slots, text)
	}
}
