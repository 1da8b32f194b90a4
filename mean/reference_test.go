package mean_test

import (
	"fmt"
	"slices"
	"strings"
	"testing"

	"argus/api"
	"argus/mean"
)

const referred = `
proc far[t](a: array[array[?t]]) is end
proc farther[t]() returns array[array[?t]] is return array[array[?t]]$new() end
cluster hide is make, get, each rep = int
  proc make(n: int) returns hide is return up(n) end
  proc get(h: hide) returns int is return down(h) end
  iter each(h: hide) yields int is yield down(h) end
  proc secret(n: int) returns hide is return up(n) end
end
cluster tall[t] is make, twice rep = int proc make(n: int) returns tall[?t] is return up(n) end proc twice(a: array[array[?t]]) is end end
proc plain[t](n: int) returns int is return n end
`

// F2, F3: which texts refer to procedures, which ones to iterators, and which ones to nothing.
func TestReferences(t *testing.T) {
	p := programOf(t, town, referred)
	four := "array[array[array[int]]]"
	for ref, args := range map[string]string{
		"say": "1", "idle": "", "least[int]": "1 2", "coin$make": "true", "coin$heads": "true", "hide$make": "1", "hide$get": "1",
		"box[int]$new": "1", "box[coin]$new": "true", "box[box[null]]$new": "", "bag[coin]$new": "", "bag[array[int]]$new": "", "list[bag[int]]$empty": "",
		"far[" + four + "]": "", "farther[" + four + "]": "", "tall[array[" + four + "]]$make": "1", "tall[" + four + "]$twice": "", "plain[array[array[" + four + "]]]": "1",
	} {
		_, _, e := mean.Call(p, nil, ref, vals(args), many)
		// Some would need objects: then the arguments are wrong, but the reference is not.
		if e != api.OK && (e != api.ErrGiven || args != "") {
			t.Errorf("F2: %s: %d", ref, e)
		}
		if _, _, _, e := mean.Each(p, nil, ref, vals(args), many, 1); e != api.ErrRef {
			t.Errorf("F3: %s: %d", ref, e)
		}
	}
	for ref, args := range map[string]string{"upto": "1 2", "coin$twice": "true", "hide$each": "1", "items[int]": "@0", "items[box[int]]": "@0", "bag[int]$each": "@0", "bag[null]$each": "@0"} {
		if _, _, _, e := mean.Each(p, heap("array"), ref, vals(args), many, 1); e != api.OK {
			t.Errorf("F3: %s: %d", ref, e)
		}
		if _, _, e := mean.Call(p, heap("array"), ref, vals(args), many); e != api.ErrRef {
			t.Errorf("F2: %s: %d", ref, e)
		}
	}
	for _, ref := range slices.Concat(noReferences(), []string{
		"far[array[" + four + "]]", "farther[array[" + four + "]]", "tall[array[" + four + "]]$twice", "plain[array[array[array[" + four + "]]]]",
	}) {
		for _, args := range []string{"", "1", "1 2", "true"} {
			if r, h, e := mean.Call(p, heap("array"), ref, vals(args), many); e != api.ErrRef || len(h) > 0 || showRan(r) != "kind 0, 0 steps" {
				t.Errorf("F2: %q: %d", ref, e)
			}
			if l, r, h, e := mean.Each(p, heap("array"), ref, vals(args), many, 1); e != api.ErrRef || len(l)+len(h) > 0 || showRan(r) != "kind 0, 0 steps" {
				t.Errorf("F3: %q: %d", ref, e)
			}
			if r, e := mean.Run(p, ref, []int{1}, many); e != api.ErrRef || showRan(r) != "kind 0, 0 steps" {
				t.Errorf("F1: %q: %d", ref, e)
			}
		}
	}
}

func noReferences() []string {
	return []string{
		"", "$", "[", "]", "[]", "$$", "other", "proc", "int", "?t", "box", "box[int]", "coin", "bag[int]", "say[int]", "say[]", "upto[int]", "idle$idle", "say$say",
		"least", "least[?t]", "least[]", "least[bool]", "least[null]", "least[nowhere]", "least[box[int]]", "least[int", "least[int]]", "least[int]x", "least[[int]", "least [int]", "least[ int]", "leastint]", "[int]", "least[int][int]",
		"items", "items[?t]", "items[nowhere]", "items[box]", "items[record[b:int,a:int]]",
		"box$new", "box[?t]$new", "box[nowhere]$new", "box[box]$new", "box[int]$", "$new", "box[int]new", "box[int]$none", "box[int]$new$get", "box[int]$ new", " box[int]$new", "box[int]$new ", "box[int]$$new", "box[int]$new[int]",
		"coin[int]$make", "coin$none", "coin$turned", "hide$secret", "bag[int]$find", "bag[box[int]]$new", "bag[bag[int]]$new", "bag[?t]$new",
		"int$add", "bool$not", "null$equal", "array[int]$new", "array[int]$size", "record[v:int]$make", "record[v:int]$get_v", "oneof[v:int]$make_v", "?t$new", "other$new", "other[int]$new",
		"Say", "say\x00", "\xff", strings.Repeat("a", 1000), "least[" + strings.Repeat("array[", 50) + "int" + strings.Repeat("]", 51),
	}
}

// A text N[T] needs not be a type itself: T has to.
func TestLongReference(t *testing.T) {
	p := programOf(t, town, "proc verylongname[t](n: int) returns int is return n + 1 end")
	ref := "verylongname[" + wide(t, 92) + "]"
	if r, _ := call(t, p, nil, ref, "4", many); showEnd(r) != "done 5" {
		t.Errorf("F2: %s", showRan(r))
	}
}

// F1: modules that cannot be run are procedures with a parameter or other types, iterators and clusters.
func TestModulesThatAreNotRun(t *testing.T) {
	p := programOf(t, town, "proc none(x: null) is end proc gives() returns null is return nil end proc coins(c: coin) is end proc last(a: int, b: bool, c: array[int]) is end")
	for _, start := range []string{"upto", "items", "least", "least[int]", "box", "coin", "coin$make", "bag[int]$new", "none", "gives", "coins", "last", "other", "", "say[int]", "?t", "int", "int$add", "count", "count$new"} {
		for _, args := range [][]int{nil, {0}, {1, 1}, {1, 1, 1}} {
			if r, e := mean.Run(p, start, args, many); e != api.ErrRef || showRan(r) != "kind 0, 0 steps" {
				t.Errorf("F1: Run(%q, %d): %d, %s", start, args, e, showRan(r))
			}
		}
	}
}

// F1, F2, F3: what is given has to be of the types, together, and as many.
func TestGiven(t *testing.T) {
	p := programOf(t, town, `
proc p(a: int, b: bool) is end
proc both(a: array[int], b: array[bool]) is end
proc same(a: bag[int], b: array[int]) is end
proc rec(r: record[a:int,b:box[int]]) is end
proc one(o: oneof[a:int,b:bool]) is end
proc nothing(n: null) is end
iter gives(a: array[int], n: int) yields int is yield n end`)
	for _, x := range []struct {
		args []int
		want api.Errno
	}{
		{[]int{1, 1}, api.OK}, {[]int{-1000000000, 0}, api.OK}, {[]int{1000000000, 0}, api.OK},
		{nil, api.ErrGiven}, {[]int{1}, api.ErrGiven}, {[]int{1, 1, 1}, api.ErrGiven}, {[]int{1, 2}, api.ErrGiven}, {[]int{1, -1}, api.ErrGiven},
		{[]int{1000000001, 0}, api.ErrGiven}, {[]int{-1000000001, 0}, api.ErrGiven}, {[]int{1 << 62, 0}, api.ErrGiven}, {[]int{-1 << 63, 0}, api.ErrGiven}, {[]int{0, 1 << 62}, api.ErrGiven},
	} {
		if r, e := mean.Run(p, "p", x.args, many); e != x.want || e != api.OK && showRan(r) != "kind 0, 0 steps" {
			t.Errorf("F1: %d: %d, %s", x.args, e, showRan(r))
		}
	}
	const h = "array; array true; array 1 2; record 1 @4; record 5; oneof0 7; oneof1 false; oneof1 7; array @2; record 5 5; oneof2 5; record 1 @8"
	for _, x := range []struct {
		ref, args string
		want      api.Errno
	}{
		{"p", "1 true", api.OK}, {"p", "1 1", api.ErrGiven}, {"p", "true true", api.ErrGiven}, {"p", "1", api.ErrGiven}, {"p", "", api.ErrGiven}, {"p", "1 true true", api.ErrGiven}, {"p", "nil true", api.ErrGiven}, {"p", "@0 true", api.ErrGiven},
		{"p", "1000000001 true", api.ErrGiven}, {"p", "@99 true", api.ErrGiven}, {"p", "1 @-1", api.ErrGiven},
		{"both", "@2 @1", api.OK}, {"both", "@0 @1", api.OK}, {"both", "@2 @0", api.OK}, {"both", "@0 @0", api.ErrGiven}, {"both", "@1 @2", api.ErrGiven}, {"both", "@2 @2", api.ErrGiven}, {"both", "@4 @0", api.ErrGiven},
		{"same", "@2 @2", api.OK}, {"same", "@0 @0", api.OK}, {"same", "@1 @1", api.ErrGiven}, {"same", "@2 @99", api.ErrGiven}, {"same", "@2 @12", api.ErrGiven}, {"same", "@2 @-1", api.ErrGiven},
		{"rec", "@3", api.OK}, {"rec", "@4", api.ErrGiven}, {"rec", "@9", api.ErrGiven}, {"rec", "@0", api.ErrGiven}, {"rec", "@11", api.ErrGiven},
		{"one", "@5", api.OK}, {"one", "@6", api.OK}, {"one", "@7", api.ErrGiven}, {"one", "@10", api.ErrGiven}, {"one", "7", api.ErrGiven},
		{"nothing", "nil", api.OK}, {"nothing", "0", api.ErrGiven}, {"nothing", "false", api.ErrGiven},
		{"coin$heads", "true", api.OK}, {"coin$heads", "1", api.ErrGiven}, {"box[array[int]]$get", "@8", api.ErrGiven}, {"box[int]$get", "@4", api.OK}, {"box[bool]$get", "@4", api.ErrGiven},
		{"bag[array[int]]$size", "@8", api.OK}, {"bag[array[bool]]$size", "@8", api.ErrGiven},
	} {
		before := heap(h)
		r, g, e := mean.Call(p, before, x.ref, vals(x.args), many)
		if e != x.want || e != api.OK && (len(g) > 0 || showRan(r) != "kind 0, 0 steps") {
			t.Errorf("F2: %s(%s): %d, not %d", x.ref, x.args, e, x.want)
		}
		if e == api.OK && !strings.HasPrefix(showHeap(g), h) {
			t.Errorf("F2: %s(%s): %s", x.ref, x.args, showHeap(g))
		}
	}
	for args, want := range map[string]api.Errno{"@0 1": api.OK, "@2 1": api.OK, "@1 1": api.ErrGiven, "@0": api.ErrGiven, "": api.ErrGiven, "@0 1 1": api.ErrGiven, "1 @0": api.ErrGiven, "@0 -1000000001": api.ErrGiven} {
		l, r, g, e := mean.Each(p, heap(h), "gives", vals(args), many, 9)
		if e != want || e != api.OK && (len(l)+len(g) > 0 || showRan(r) != "kind 0, 0 steps") {
			t.Errorf("F3: %s: %d, not %d", args, e, want)
		}
	}
	for _, v := range []api.Value{{}, {Kind: 5}, {Kind: 255, N: 1}, {Kind: api.ValBool, N: 2}, {Kind: api.ValBool, N: -1}, {Kind: api.ValNil, N: 1}} {
		for _, ref := range []string{"p", "nothing", "coin$heads"} {
			if _, _, e := mean.Call(p, nil, ref, []api.Value{v, {Kind: api.ValBool}}[:1+len(ref)%2], many); e != api.ErrGiven {
				t.Errorf("F2: %s(%v): %d", ref, v, e)
			}
		}
	}
}

// The errors of the functions that run something, in their order: each call has all that is wrong behind a place.
func TestOrderOfErrors(t *testing.T) {
	p := programOf(t, town)
	bad := copied(p)
	bad.Cores[0].Name = "other"
	wrongHeap := heap("array 1; array @5")
	type given struct {
		p     api.Program
		steps int
		h     []api.Obj
		most  int
		ref   string
		args  []api.Value
	}
	right := given{p, many, heap("array"), 1, "upto", vals("1 2")}
	wrong := given{bad, -1, wrongHeap, 0, "other", nil}
	for i, want := range []api.Errno{api.ErrArg, api.ErrLimit, api.ErrArg, api.ErrArg, api.ErrRef, api.ErrGiven, api.OK} {
		x := wrong
		for j, fix := range []func(){
			func() { x.p = right.p }, func() { x.steps = right.steps }, func() { x.h = right.h }, func() { x.most = right.most }, func() { x.ref = right.ref }, func() { x.args = right.args },
		} {
			if j < i {
				fix()
			}
		}
		if _, _, _, e := mean.Each(x.p, x.h, x.ref, x.args, x.steps, x.most); e != want {
			t.Errorf("F3: %d right: %d, not %d", i, e, want)
		}
		if x.ref == "upto" {
			x.ref = "least[int]"
		}
		if i == 3 {
			want = api.ErrRef // most is asked of Each alone
		}
		if _, _, e := mean.Call(x.p, x.h, x.ref, x.args, x.steps); e != want {
			t.Errorf("F2: %d right: %d, not %d", i, e, want)
		}
		if x.ref == "least[int]" {
			x.ref = "say"
		}
		if want == api.ErrArg && i > 0 {
			want = api.ErrRef // a heap too
		}
		if _, e := mean.Run(x.p, x.ref, []int{1, 2}[:max(0, len(x.args)-1)], x.steps); e != want {
			t.Errorf("F1: %d right: %d, not %d", i, e, want)
		}
	}
	for steps, want := range map[int]api.Errno{-1: api.ErrLimit, 0: api.OK, 1: api.OK, 100000: api.OK, 100001: api.ErrLimit, -1 << 63: api.ErrLimit, 1<<63 - 1: api.ErrLimit} {
		_, e := mean.Run(p, "say", []int{1}, steps)
		_, _, f := mean.Call(p, nil, "say", vals("1"), steps)
		_, _, _, g := mean.Each(p, nil, "upto", vals("1 2"), steps, 1)
		if e != want || f != want || g != want {
			t.Errorf("%d steps: %d, %d, %d, not %d", steps, e, f, g, want)
		}
	}
	for most, want := range map[int]api.Errno{-1: api.ErrArg, 0: api.ErrArg, 1: api.OK, 1000: api.OK, 1001: api.ErrArg, -1 << 63: api.ErrArg, 1<<63 - 1: api.ErrArg} {
		if l, r, h, e := mean.Each(p, heap("array"), "upto", vals("1 2"), many, most); e != want || e != api.OK && (len(l)+len(h) > 0 || showRan(r) != "kind 0, 0 steps") {
			t.Errorf("F3: most %d: %d", most, e)
		}
	}
}

// Programs that are not valid are refused by all functions.
func TestProgramsThatAreNotValid(t *testing.T) {
	p := programOf(t, town)
	for i, spoil := range []func(q *api.Program){
		func(q *api.Program) { q.Cores = q.Cores[1:] },
		func(q *api.Program) { q.Faces = q.Faces[1:] },
		func(q *api.Program) { q.Reps[0] = "nowhere" },
		func(q *api.Program) { q.Cores[0].Nodes[0].Type = "other" },
		func(q *api.Program) { q.Cores[1].Slots[0] = "int" },
		func(q *api.Program) { q.Faces[0], q.Faces[1] = q.Faces[1], q.Faces[0] },
	} {
		q := copied(p)
		spoil(&q)
		r, e := mean.Run(q, "say", []int{1}, many)
		s, h, f := mean.Call(q, heap("array"), "say", vals("1"), many)
		l, u, k, g := mean.Each(q, heap("array"), "upto", vals("1 2"), many, 1)
		is, b := mean.Fits(q, nil, vals("1"), []string{"int"})
		bottom, c := mean.Bottom(q, "int")
		if fmt.Sprint(e, f, g, b, c) != "1 1 1 1 1" || is || bottom != "" || len(h)+len(l)+len(k) > 0 {
			t.Errorf("%d: %d, %d, %d, %d, %d", i, e, f, g, b, c)
		}
		for _, x := range []api.Ran{r, s, u} {
			if showRan(x) != "kind 0, 0 steps" {
				t.Errorf("%d: %s", i, showRan(x))
			}
		}
	}
	if _, e := mean.Run(api.Program{}, "p", nil, many); e != api.ErrRef {
		t.Errorf("F1: without modules: %d", e)
	}
}
