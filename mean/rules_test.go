package mean_test

import (
	"fmt"
	"math/rand/v2"
	"reflect"
	"slices"
	"strings"
	"testing"

	"argus/api"
	"argus/mean"
)

// calls has a call of each function that goes well, with arguments that the results could share memory with.
type calls struct {
	p     api.Program
	h     []api.Obj
	args  []api.Value
	nums  []int
	types []string
}

func newCalls(t *testing.T) calls {
	p := programOf(t, town, `
proc work(a: array[int], b: box[array[int]]) returns array[int] is
  array[int]$addh(a, say(1)); array[int]$remh(a); a[1] := say(2); box[array[int]]$set(b, a);
  var l: list[int] := list[int]$cons(a[1], list[int]$empty()); return trio{int}(list[int]$head(l), 3)
end
iter parts(a: array[int], b: box[array[int]]) yields array[int] is put 1; yield a; yield box[array[int]]$get(b); array[int]$addh(a, 5); put 2; yield trio{int}(1, 2) end`)
	return calls{p, heap("array 1 2; record @2; array 4"), vals("@0 @1"), []int{7}, []string{"array[int]", "box[array[int]]"}}
}

// all returns the results of all calls.
func (c calls) all() []any {
	type result struct {
		Values []api.Value
		Ran    api.Ran
		Heap   []api.Obj
		Err    api.Errno
	}
	var run, call, each, some, whole result
	run.Ran, run.Err = mean.Run(c.p, "say", c.nums, many)
	call.Ran, call.Heap, call.Err = mean.Call(c.p, c.h, "work", c.args, many)
	each.Values, each.Ran, each.Heap, each.Err = mean.Each(c.p, c.h, "parts", c.args, many, 9)
	some.Values, some.Ran, some.Heap, some.Err = mean.Each(c.p, c.h, "parts", c.args, 12, 9)
	whole.Heap, whole.Values, whole.Err = mean.Reached(c.h, c.args)
	fits, e := mean.Fits(c.p, c.h, c.args, c.types)
	bottom, f := mean.Bottom(c.p, c.types[1])
	alike, g := mean.Alike(c.h, c.args, c.h, c.args)
	return []any{run, call, each, some, whole, fits, e, bottom, f, alike, g}
}

// R3, R4: arguments stay, results share no memory, and the same call returns the same, whatever became of earlier results.
func TestCallsLeaveArguments(t *testing.T) {
	c := newCalls(t)
	before := calls{copied(c.p), copied(c.h), copied(c.args), copied(c.nums), copied(c.types)}
	first := c.all()
	if want := "[{[] {1  {1 7} [7] 5} [] 0} "; !strings.HasPrefix(fmt.Sprint(first), want) {
		t.Errorf("%v, not %s..", first, want)
	}
	if !reflect.DeepEqual(c, before) {
		t.Error("R3: the arguments were changed")
	}
	apart(t, "results and arguments", append(first, c.p, c.h, c.args, c.nums, c.types)...)
	text := fmt.Sprint(first)
	for range 3 {
		again := c.all()
		if fmt.Sprint(again) != text {
			t.Errorf("R4: %v, not %v", again, first)
		}
		apart(t, "results of two calls", append(first, again...)...)
		for _, x := range again {
			spoil(reflect.ValueOf(x))
		}
	}
	if fmt.Sprint(first) != text || !reflect.DeepEqual(c, before) {
		t.Error("R3: memory is shared")
	}
}

// spoil overwrites all slices in a value, with all that they have room for.
func spoil(v reflect.Value) {
	switch v.Kind() {
	case reflect.Struct:
		for i := range v.NumField() {
			spoil(v.Field(i))
		}
	case reflect.Slice:
		for i := range v.Len() {
			spoil(v.Index(i))
		}
		v.Slice(0, v.Cap()).Clear()
	}
}

// R3: what lies behind an argument in its memory stays too.
func TestMemoryBehindArguments(t *testing.T) {
	c := newCalls(t)
	full := func(l []api.Value) []api.Value {
		return append(slices.Clone(l), vals("true true true")...)[:len(l)]
	}
	h := append(slices.Clone(c.h), heap("array true; array true")...)[:len(c.h)]
	for i := range h {
		h[i].Vals = full(h[i].Vals)
	}
	c.h, c.args = h, full(c.args)
	c.nums = append(slices.Clone(c.nums), 99)[:1]
	want := fmt.Sprint(newCalls(t).all())
	if got := fmt.Sprint(c.all()); got != want {
		t.Errorf("R4: %s, not %s", got, want)
	}
	for _, o := range h {
		if showValues(o.Vals[len(o.Vals):len(o.Vals)+3]) != "true true true" {
			t.Errorf("R3: %s", showHeap(h))
		}
	}
	if showHeap(h[len(h):len(h)+2]) != "array true; array true" || showValues(c.args[2:5]) != "true true true" || c.nums[:2][1] != 99 {
		t.Error("R3: memory was changed")
	}
}

// R3: nil slices and empty ones are the same.
func TestEmptySlices(t *testing.T) {
	p := programOf(t, town)
	for _, x := range []struct {
		h    []api.Obj
		args []api.Value
	}{{nil, nil}, {[]api.Obj{}, []api.Value{}}, {[]api.Obj{{Kind: api.ObjArray}}, nil}, {[]api.Obj{{Kind: api.ObjArray, Vals: []api.Value{}}}, []api.Value{}}} {
		r, h, e := mean.Call(p, x.h, "idle", x.args, many)
		if showRan(r) != "done, 1 steps" || e != api.OK || showHeap(h) != showHeap(x.h) {
			t.Errorf("R3: %s, %d", showRan(r), e)
		}
		g, w, e := mean.Reached(x.h, x.args)
		is, f := mean.Alike(x.h, x.args, nil, nil)
		fits, k := mean.Fits(p, x.h, x.args, nil)
		if len(g)+len(w) > 0 || !is || !fits || e != api.OK || f != api.OK || k != api.OK {
			t.Errorf("R3: %v, %v, %d, %d, %d", is, fits, e, f, k)
		}
		if is, e := mean.Alike(heap("array"), vals("@0"), []api.Obj{{Kind: api.ObjArray, Vals: []api.Value{}}}, vals("@0")); !is || e != api.OK {
			t.Errorf("R3: %v, %d", is, e)
		}
	}
	if r, e := mean.Run(p, "idle", []int{}, many); showRan(r) != "done, 1 steps" || e != api.OK {
		t.Errorf("R3: %s, %d", showRan(r), e)
	}
}

// R4: calls that run at once do not meet.
func TestCallsAtOnce(t *testing.T) {
	c := newCalls(t)
	want := fmt.Sprint(c.all())
	done := make(chan bool)
	for range 8 {
		go func() {
			same := true
			for range 5 {
				same = same && fmt.Sprint(c.all()) == want
			}
			done <- same
		}()
	}
	for range 8 {
		if !<-done {
			t.Error("R4: the results are others")
		}
	}
}

// R1, R2: arguments of any sort: no call panics, and with an error there is nothing else.
func TestArgumentsOfAnySort(t *testing.T) {
	t.Parallel()
	r := rand.New(rand.NewPCG(1, 6))
	p := programOf(t, examples)
	number := func() int {
		return []int{0, 1, 2, 3, -1, 5, 6, 7, 200, 1000, 1000000000, 1000000001, -1000000001, 1<<63 - 1, -1 << 63}[r.IntN(15)]
	}
	value := func() api.Value { return api.Value{Kind: uint8(r.IntN(6)), N: number()} }
	list := func(most int) []api.Value {
		var l []api.Value
		for range r.IntN(most) {
			l = append(l, value())
		}
		return l
	}
	anyHeap := func() []api.Obj {
		var h []api.Obj
		for range r.IntN(3) {
			h = append(h, api.Obj{Kind: uint8(r.IntN(5)), Tag: number() % 7, Vals: list(4)})
		}
		return h
	}
	text := func() string {
		return []string{"", "int", "bool", "main", "upto", "deep", "box", "box[int]", "box[int]$new", "box[int]$get", "box[box[int]]", "array[int]", "?t", "$", "[", "box[", "box[]", "\xff", strings.Repeat("box[", 1000), "record[v:int]"}[r.IntN(20)]
	}
	program := func() api.Program {
		q := p
		switch r.IntN(4) {
		case 0:
			q = copied(p)
			c := &q.Cores[r.IntN(len(q.Cores))]
			n := &c.Nodes[r.IntN(len(c.Nodes))]
			n.Kind, n.N, n.Name = uint8(r.IntN(40)), number(), text()
		case 1:
			q = api.Program{Cores: p.Cores}
		}
		return q
	}
	for range 4000 {
		q, h, v, s := program(), anyHeap(), list(4), text()
		nums := []int{number(), number(), number()}[:r.IntN(4)]
		x, e := mean.Run(q, s, nums, number()%100001)
		if e != api.OK && showRan(x) != "kind 0, 0 steps" {
			t.Fatalf("R2: Run: %s, %d", showRan(x), e)
		}
		x, g, e := mean.Call(q, h, s, v, number()%100001)
		if e != api.OK && (showRan(x) != "kind 0, 0 steps" || len(g) > 0) {
			t.Fatalf("R2: Call: %s, %d", showRan(x), e)
		}
		l, x, g, e := mean.Each(q, h, s, v, number()%100001, number())
		if e != api.OK && (showRan(x) != "kind 0, 0 steps" || len(g)+len(l) > 0) {
			t.Fatalf("R2: Each: %s, %d", showRan(x), e)
		}
		is, e := mean.Fits(q, h, v, []string{text(), text(), text()}[:r.IntN(4)])
		b, f := mean.Bottom(q, text())
		alike, k := mean.Alike(h, v, anyHeap(), list(4))
		g, l, c := mean.Reached(h, v)
		if e != api.OK && is || f != api.OK && b != "" || k != api.OK && alike || c != api.OK && len(g)+len(l) > 0 {
			t.Fatalf("R2: %v, %d; %s, %d; %v, %d; %d", is, e, b, f, alike, k, c)
		}
	}
}

// R1: what is large.
func TestLargeArguments(t *testing.T) {
	p := programOf(t, town)
	values := slices.Repeat(vals("1"), 100000)
	types := slices.Repeat([]string{"int"}, 100000)
	if is, e := mean.Fits(p, nil, values, types); !is || e != api.OK {
		t.Errorf("F4: %v, %d", is, e)
	}
	if is, e := mean.Alike(nil, values, nil, values); !is || e != api.OK {
		t.Errorf("F5: %v, %d", is, e)
	}
	if _, _, e := mean.Call(p, nil, "say", values, many); e != api.ErrGiven {
		t.Errorf("F2: %d", e)
	}
	full := slices.Repeat([]api.Obj{{Kind: api.ObjArray, Vals: slices.Repeat(vals("@4999"), 200)}}, 5000)
	if is, e := mean.Fits(p, full, vals("@0"), []string{"array[array[array[array[int]]]]"}); is || e != api.OK {
		t.Errorf("F4: %v, %d", is, e)
	}
	full[4999].Vals = nil
	full[4998].Vals = slices.Repeat(vals("@4997"), 200)
	if is, e := mean.Fits(p, full, vals("@0 @4998"), []string{"array[array[int]]", "array[array[array[int]]]"}); !is || e != api.OK {
		t.Errorf("F4: %v, %d", is, e)
	}
	if g, _, e := mean.Reached(full, vals("@0 @4998")); len(g) != 4 || e != api.OK {
		t.Errorf("F5: %d objects, %d", len(g), e)
	}
}
