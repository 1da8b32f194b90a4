package lower_test

import (
	"fmt"
	"math/rand/v2"
	"reflect"
	"slices"
	"strings"
	"testing"

	"argus/api"
	"argus/check"
	"argus/lower"
	"argus/sample"
)

// question is what the calls of the functions are given.
type question struct {
	p     api.Program
	name  string
	f     api.Flow
	l     []api.Flow
	t, op string
	v     api.Value
}

// newQuestion has what all functions have a result for.
func newQuestion(t *testing.T) question {
	p := programOf(t, cell, upto, useOfBoth, "proc more(o: oneof[a:int,b:cell]) returns int signals (high, low) is begin tagcase o tag b(c: cell): return main(cell$get(c)) tag a(n: int): for x: int in upto(n) do array[cell]$new()[x] := cell$make(x) end end except when bounds: put 1 when others: put 2 end end")
	l := flowsOf(t, p)
	return question{p, "more", l[slices.IndexFunc(l, func(f api.Flow) bool { return f.Name == "more" })], l, "cell", "set_n", api.Value{Kind: api.ValInt, N: 5}}
}

// results returns all results.
func (q question) results() []any {
	type result struct {
		Is     bool
		N      int
		Kind   uint8
		Kinds  []uint8
		Names  []string
		Flow   api.Flow
		Flows  []api.Flow
		Err    api.Errno
		mayBeN bool
	}
	var l []any
	for _, do := range []func() result{
		func() (r result) { r.Flow, r.Err = lower.Lower(q.p, q.name); return },
		func() (r result) { r.Flows, r.Err = lower.All(q.p); return },
		func() (r result) { r.Is, r.Err = lower.Like(q.p, q.f); return },
		func() (r result) { r.N, r.Err = lower.CheckFlows(q.p, q.l); r.mayBeN = true; return },
		func() (r result) { r.Kinds, r.Kind, r.Err = lower.Kinds(q.p, q.name); return },
		func() (r result) { r.N, r.Err = lower.Part(q.p, q.t, q.op); return },
		func() (r result) { r.N, r.Err = lower.Value(q.p, "int", q.v); return },
		func() (r result) { r.Names, r.Err = lower.Calls(q.p, q.name); return },
	} {
		r := do()
		empty := !r.Is && (r.N == 0 || r.mayBeN) && r.Kind == 0 && len(r.Kinds)+len(r.Names)+len(r.Flows) == 0 && isEmpty(r.Flow)
		if r.Err != api.OK && !empty {
			l = append(l, fmt.Sprint("R2: ", r))
		}
		r.mayBeN = false
		l = append(l, r)
	}
	return l
}

// R3, R4: arguments stay, results share no memory, and the same call returns the same, whatever became of earlier results.
func TestCallsLeaveArguments(t *testing.T) {
	q := newQuestion(t)
	before := copied(q.p)
	f, l := copied(q.f), copied(q.l)
	first := q.results()
	apart(t, "results and arguments", append(slices.Clone(first), q.p, q.f)...)
	text := fmt.Sprint(first)
	for i, x := range first {
		if reflect.ValueOf(x).FieldByName("Err").Int() != int64(api.OK) {
			t.Errorf("call %d: %v", i, x)
		}
	}
	for range 3 {
		again := q.results()
		if fmt.Sprint(again) != text {
			t.Errorf("R4: %v, not %v", again, first)
		}
		apart(t, "results of two calls", append(slices.Clone(first), again...)...)
		for _, x := range again {
			spoil(reflect.ValueOf(x))
		}
	}
	if fmt.Sprint(first) != text || !reflect.DeepEqual(q.p, before) || !reflect.DeepEqual(q.f, f) || !reflect.DeepEqual(q.l, l) {
		t.Error("R3: the arguments were changed, or memory is shared")
	}
}

// spoil overwrites all slices in a value, with all that they have room for.
func spoil(v reflect.Value) {
	switch v.Kind() {
	case reflect.Struct:
		for i := range v.NumField() {
			spoil(v.Field(i))
		}
	case reflect.Slice:
		for i := range v.Len() {
			spoil(v.Index(i))
		}
		v.Slice(0, v.Cap()).Clear()
	}
}

// R3: what lies behind an argument in its memory stays too.
func TestMemoryBehindArguments(t *testing.T) {
	q := newQuestion(t)
	want := fmt.Sprint(q.results())
	for i := range q.p.Cores {
		s := &q.p.Cores[i].Sig
		s.Signals = append(slices.Clone(s.Signals), "x", "y")[:len(s.Signals)]
		s.Args = append(slices.Clone(s.Args), "x", "y")[:len(s.Args)]
		c := &q.p.Cores[i]
		c.Slots = append(slices.Clone(c.Slots), "x", "y")[:len(c.Slots)]
	}
	if got := fmt.Sprint(q.results()); got != want {
		t.Errorf("R4: %s, not %s", got, want)
	}
	for _, c := range q.p.Cores {
		for _, l := range [][]string{c.Sig.Signals, c.Sig.Args, c.Slots} {
			if behind := l[len(l):][:2]; !slices.Equal(behind, []string{"x", "y"}) {
				t.Errorf("R3: %v", behind)
			}
		}
	}
}

// R3: nil slices and empty ones are the same.
func TestEmptySlices(t *testing.T) {
	p := programOf(t, "proc main() is main() end")
	q := copied(p)
	q.Faces[0].Needs = []api.Need{}
	q.Faces[0].Ops[0].Sig.Args = []string{}
	q.Cores[0].Slots = []string{}
	q.Cores[0].Sig.Signals = []string{}
	f, g := lowered(t, p, "main"), lowered(t, q, "main")
	if textOf(f) != textOf(g) {
		t.Errorf("R3: %v, not %v", g, f)
	}
	g.Signals, g.Slots, g.Regs, g.Blocks[1].Ins, g.Blocks[0].End.Args, g.Blocks[0].End.Whens = []string{}, []uint8{}, []uint8{}, []api.Ins{}, []int{}, []api.When{}
	f.Signals, f.Slots, f.Regs, f.Blocks[1].Ins, f.Blocks[0].End.Args, f.Blocks[0].End.Whens = nil, nil, nil, nil, nil, nil
	for _, x := range []api.Flow{f, g} {
		asksLike(t, p, "empty slices", x, true)
		asksLike(t, q, "empty slices", x, true)
		if at, e := lower.CheckFlows(p, []api.Flow{x}); at != 0 || e != api.OK {
			t.Errorf("R3: %d, %d", at, e)
		}
	}
	for _, l := range [][]api.Flow{nil, {}} {
		if at, e := lower.CheckFlows(p, l); at != 0 || e != api.ErrNone {
			t.Errorf("R3: %d, %d", at, e)
		}
	}
}

// R4: calls that run at once do not meet.
func TestCallsAtOnce(t *testing.T) {
	q := newQuestion(t)
	want := fmt.Sprint(q.results())
	done := make(chan bool)
	for range 8 {
		go func() {
			isSame := true
			for range 5 {
				isSame = isSame && fmt.Sprint(q.results()) == want
			}
			done <- isSame
		}()
	}
	for range 8 {
		if !<-done {
			t.Error("R4: the results are others")
		}
	}
}

// R1, R2: arguments of any sort: no call panics, and with an error there is nothing else.
func TestArgumentsOfAnySort(t *testing.T) {
	t.Parallel()
	r := rand.New(rand.NewPCG(1, 9))
	whole := newQuestion(t)
	text := func() string {
		return sample.Pick(r, "", "int", "main", "cell", "cell$get", "$", "get_n", "set_", "_", "record[n:int]", "oneof[a:int,b:cell]", "?t", "\xff", "record[", strings.Repeat("a", 1<<16), strings.Repeat("$", 1000))
	}
	number := func() int { return sample.Pick(r, 0, 1, -1, 2, 1200, 1<<40, -1<<62) }
	valid := 0
	for range 900 {
		q := question{whole.p, text(), copied(whole.f), slices.Clone(whole.l), text(), text(), api.Value{Kind: uint8(r.IntN(6)), N: number()}}
		if r.IntN(3) == 0 {
			q.p = copied(whole.p)
			bend(r, &q.p, text())
		}
		switch r.IntN(8) {
		case 0:
			q.f.Args = number()
		case 1:
			q.f.Name = text()
		case 2:
			q.f.Regs = q.f.Regs[:r.IntN(len(q.f.Regs)+1)]
		case 3:
			b := &q.f.Blocks[r.IntN(len(q.f.Blocks))]
			b.End = api.End{Kind: uint8(r.IntN(11)), A: number(), B: number(), To: number(), Else: number(), Name: text(), Others: number()}
		case 4:
			q.f = api.Flow{Name: text(), Args: number(), Result: uint8(r.IntN(9))}
		}
		q.l[r.IntN(len(q.l))] = q.f
		isValid := check.CheckProgram(q.p) == api.OK
		if isValid {
			valid++
		}
		for i, x := range q.results() {
			s := fmt.Sprint(x)
			if strings.HasPrefix(s, "R2") || !isValid && !strings.Contains(s, fmt.Sprintf(" %d ", api.ErrProgram)) {
				t.Fatalf("R2: call %d: %s of %v", i, s, q)
			}
		}
	}
	if valid < 450 || valid > 870 {
		t.Errorf("%d programs are valid", valid)
	}
}

// bend changes something in a program.
func bend(r *rand.Rand, p *api.Program, text string) {
	c := &p.Cores[r.IntN(len(p.Cores))]
	n := &c.Nodes[r.IntN(len(c.Nodes))]
	switch r.IntN(8) {
	case 0:
		n.Type = text
	case 1:
		n.Var = text
	case 2:
		n.Kind = uint8(r.IntN(40))
	case 3:
		n.N = r.IntN(5) - 1
	case 4:
		n.Name = text
	case 5:
		c.Name = text
	case 6:
		p.Reps[r.IntN(len(p.Reps))] = text
	default:
		c.Slots = append(c.Slots, text)
	}
}
