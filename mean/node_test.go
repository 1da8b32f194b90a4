package mean_test

import (
	"fmt"
	"reflect"
	"slices"
	"testing"

	"argus/api"
	"argus/mean"
)

// askCall asks whether Call (or Each, for an iterator with most above 0) does what the second way does, and returns the run.
func askCall(t *testing.T, p api.Program, h []api.Obj, ref string, args []api.Value, steps, most int) api.Ran {
	t.Helper()
	l, want, after := plainRun(p, h, ref, args, steps, most)
	var values []api.Value
	var r api.Ran
	var g []api.Obj
	var e api.Errno
	if most > 0 {
		values, r, g, e = mean.Each(p, h, ref, args, steps, most)
	} else {
		r, g, e = mean.Call(p, h, ref, args, steps)
	}
	if e != api.OK || showRan(r) != showRan(want) || showHeap(g) != showHeap(after) || !slices.Equal(values, l) {
		t.Fatalf("%s of %s with %s, %d steps: %d\n%s, not %s\n%s, not %s\n%s, not %s", ref, showValues(args), showHeap(h), steps, e, showRan(r), showRan(want), showHeap(g), showHeap(after), showValues(values), showValues(l))
	}
	return r
}

// askRun asks whether a module p without arguments ends as it should, with as many steps, in both ways.
func askRun(t *testing.T, what, source, want string) {
	t.Helper()
	p := programOf(t, town, source)
	r, e := mean.Run(p, "p", nil, many)
	if e != api.OK || showRan(r) != want {
		t.Errorf("%s: %s: %s, %d, not %s", what, source, showRan(r), e, want)
	}
	if again := askCall(t, p, nil, "p", nil, many, 0); showRan(again) != showRan(r) {
		t.Errorf("%s: %s: Call: %s, Run: %s", what, source, showRan(again), showRan(r))
	}
	askSteps(t, p, r)
}

// askSteps asks for P6.3 with fewer steps than a run of p takes.
func askSteps(t *testing.T, p api.Program, whole api.Ran) {
	t.Helper()
	for steps := range min(whole.Steps+2, 200) {
		r, e := mean.Run(p, "p", nil, steps)
		switch {
		case e != api.OK:
			t.Errorf("P6.3: %d steps: %d", steps, e)
		case steps >= whole.Steps:
			if !reflect.DeepEqual(r, whole) {
				t.Errorf("P6.3: %d steps: %s, not %s", steps, showRan(r), showRan(whole))
			}
		case r.Kind != api.RanSpent || r.Steps != steps || r.Signal != "" || r.Value != api.Value{} || !isBeginning(r.Put, whole.Put):
			t.Errorf("P6.3: %d steps: %s; whole: %s", steps, showRan(r), showRan(whole))
		}
	}
}

func isBeginning[T comparable](l, of []T) bool {
	return len(l) <= len(of) && slices.Equal(l, of[:len(l)])
}

// Each kind of node: what it does, and the steps that it costs, counted by hand.
func TestNodes(t *testing.T) {
	for _, x := range []struct{ source, want string }{
		{"proc p() is end", "done, 1 steps"},
		{"proc p() is put 7 end", "done put 7, 3 steps"},
		{"proc p() is put 1000000000 end", "done put 1000000000, 3 steps"},
		{"proc p() is put 0 end", "done put 0, 3 steps"},
		{"proc p() returns int is return 1 end", "done 1, 3 steps"},
		{"proc p() returns int is return 0 end", "done 0, 3 steps"},
		{"proc p() returns bool is return true end", "done true, 3 steps"},
		{"proc p() returns bool is return false end", "done false, 3 steps"},
		{"proc p() is return end", "done, 2 steps"},
		{"proc p() is put 1; return; put 2 end", "done put 1, 4 steps"},
		{"proc p() is var x: null := nil end", "done, 3 steps"},
		{"proc p() returns int is var x: int := 5; return x end", "done 5, 5 steps"},
		{"proc p() is var x: int := 1; var y: int := 2; x := y; put x; put y end", "done put 2 2, 11 steps"},
		{"proc p() is if true then put 1 end end", "done put 1, 6 steps"},
		{"proc p() is if false then put 1 end end", "done, 3 steps"},
		{"proc p() is if true then put 1 else put 2 end end", "done put 1, 6 steps"},
		{"proc p() is if false then put 1 else put 2 end end", "done put 2, 6 steps"},
		{"proc p() is if false then put 1 elseif true then put 2 else put 3 end end", "done put 2, 9 steps"},
		{"proc p() is var i: int := 0; while i < 2 do put i; i := i + 1 end end", "done put 0 1, 27 steps"},
		{"proc p() is while false do put 1 end end", "done, 3 steps"},
		{"proc p() is while true do put 1; break; put 2 end; put 3 end", "done put 1 3, 9 steps"},
		{"proc p() is while true do while true do break end; put 1; break end; put 2 end", "done put 1 2, 13 steps"},
		{"proc p() returns int is while true do return 4 end end", "done 4, 6 steps"},
		{"proc p() is idle() end", "done, 4 steps"},
		{"proc p() is say(3) end", "done put 3, 9 steps"},
		{"proc p() is put say(1) + say(2) end", "done put 1 2 3, 17 steps"},
		{"proc p() returns bool is return coin$heads(coin$make(true)) end", "done true, 13 steps"},
		{"proc p() returns bool is return coin$heads(coin$make(false)) end", "done false, 13 steps"},
		{"proc p() is for x: int in upto(1, 2) do put x end end", "done put 1 2, 40 steps"},
		{"proc p() signals (low) is signal low end", "signal low, 2 steps"},
		{"proc p() is begin signal low except when low: put 1 end end", "done put 1, 8 steps"},
		{"proc p() is begin put 1 except when low: put 2 when others: put 3 end end", "done put 1, 5 steps"},
		{"proc p() is tagcase oneof[a:int,b:bool]$make_a(5) tag b(y: bool): put 1 tag a(x: int): put x end end", "done put 5, 8 steps"},
		{"proc p() returns bool is tagcase oneof[a:int,b:bool]$make_b(true) tag b(y: bool): return y tag a(x: int): put x end; return false end", "done true, 8 steps"},
		{"proc p() is var n: null := nil; tagcase oneof[a:null,b:bool]$make_a(n) tag a(x: null): if x = n then put 1 end end end", "done put 1, 15 steps"},
	} {
		askRun(t, "F1", x.source, x.want)
	}
}

// Kids are evaluated in their order, and only those that are needed.
func TestOrder(t *testing.T) {
	for _, x := range []struct{ statements, put string }{
		{"put say(1) - (say(2) - say(3))", " put 1 2 3 2"},
		{"var b: bool := (say(1) = 2) and (say(2) = 2)", " put 1 2"},
		{"var b: bool := (say(1) = 1) or (say(2) = 2)", " put 1 2"},
		{"var a: array[int] := array[int]$new(); array[int]$addh(a, say(1)); a[say(1)] := say(2); put a[1]", " put 1 1 2 2"},
		{"var r: record[a:int,b:int] := record[a:int,b:int]$make(say(1), say(2)); put r.a; put r.b; r.a := say(3); put r.a; put r.b", " put 1 2 1 2 3 3 2"},
		{"for x: int in upto(say(1), say(2)) do put say(x) end", " put 1 2 1 1 2 2"},
		{"while say(1) < say(2) do say(3); break end", " put 1 2 3"},
		{"if say(1) = 2 then say(3) elseif say(2) = 2 then say(4) else say(5) end", " put 1 2 4"},
		{"put least{int}(say(2), say(1))", " put 2 1 1"},
		{"tagcase oneof[a:int]$make_a(say(1)) tag a(x: int): say(x + 1) end", " put 1 2"},
	} {
		p := programOf(t, town, "proc p() is "+x.statements+" end")
		if r := askCall(t, p, nil, "p", nil, many, 0); showEnd(r) != "done"+x.put {
			t.Errorf("F1: %s: %s", x.statements, showRan(r))
		}
	}
}

// Each call has its own slots: those of a routine are not those of its caller, nor of another call of it.
func TestSlots(t *testing.T) {
	for _, x := range []struct{ source, want string }{
		{"proc p() is var x: int := 1; q(x); put x end proc q(x: int) is x := x + 1; put x end", "done put 2 1, 15 steps"},
		{"proc p() is q(2) end proc q(n: int) is var m: int := n; if 0 < n then q(n - 1) end; put m end", "done put 0 1 2, 43 steps"},
		{"proc p() is for x: int in upto(1, 2) do x := x + 10; put x end end", "done put 11 12, 48 steps"},
		{"proc p() is for x: int in one(1) do put x; x := 5; put x end end iter one(x: int) yields int is yield x; x := x + 1; yield x end", "done put 1 5 2 5, 27 steps"},
	} {
		askRun(t, "F1", x.source, x.want)
	}
}

// Objects are shared: what one routine changes in them, all see.
func TestObjectsAreShared(t *testing.T) {
	for _, x := range []struct{ statements, put string }{
		{"var a: array[int] := array[int]$new(); var b: array[int] := a; array[int]$addh(a, 1); put array[int]$size(b); b[1] := 2; put a[1]", " put 1 2"},
		{"var a: array[int] := array[int]$new(); var b: array[int] := array[int]$new(); array[int]$addh(a, 1); put array[int]$size(b)", " put 0"},
		{"var c: count := count$new(); var d: count := c; count$next(c); put count$next(d); put count$get(c)", " put 2 2"},
		{"var b: box[box[int]] := box[box[int]]$new(box[int]$new(1)); box[int]$set(box[box[int]]$get(b), 2); put box[int]$get(box[box[int]]$get(b))", " put 2"},
		{"var a: array[int] := array[int]$new(); var b: bag[int] := bag[int]$from(a); bag[int]$add(b, 7); bag[int]$add(b, 7); put array[int]$size(a); put a[1]", " put 1 7"},
		{"var r: record[v:int] := record[v:int]$make(1); var s: record[v:int] := record[v:int]$make(1); if r = r then put 1 end; if r = s then put 2 end", " put 1"},
	} {
		p := programOf(t, town, "proc p() is "+x.statements+" end")
		if r := askCall(t, p, nil, "p", nil, many, 0); showEnd(r) != "done"+x.put {
			t.Errorf("F1: %s: %s", x.statements, showRan(r))
		}
	}
}

// A parameter is what the call says, in the routine and in what that calls with it.
func TestParameters(t *testing.T) {
	sources := []string{
		"cluster box[t] is new, get rep = record[v:?t] proc new(x: ?t) returns box[?t] is return up(record[v:?t]$make(x)) end proc get(b: box[?t]) returns ?t is return down(b).v end end",
		"cluster coin is make, equal rep = bool proc make(b: bool) returns coin is return up(b) end proc equal(c: coin, d: coin) returns bool is return down(c) = down(d) end end",
		"cluster bag[t] is new, size rep = array[?t] proc new() returns bag[?t] is return up(array[?t]$new()) end proc size(b: bag[?t]) returns int is return array[?t]$size(down(b)) end end",
		"proc least[t](a: ?t, b: ?t) returns ?t where t has lt: proc(?t, ?t) returns bool is if a < b then return a end; return b end",
		"proc p(n: int) returns int is return least{int}(n, 5) end",
		"cluster turned is make, get, lt rep = int proc make(n: int) returns turned is return up(n) end proc get(x: turned) returns int is return down(x) end proc lt(a: turned, b: turned) returns bool is return down(b) < down(a) end end",
		"proc q(n: int) returns int is return turned$get(least{turned}(turned$make(n), turned$make(5))) end",
		"proc both[t](a: ?t, b: ?t) returns box[?t] where t has lt: proc(?t, ?t) returns bool is return box[?t]$new(least{?t}(a, b)) end",
		"proc r(n: int) returns int is return turned$get(box[turned]$get(both{turned}(turned$make(n), turned$make(5)))) end",
		"proc s(n: int) returns int is return box[int]$get(both{int}(n, 5)) end",
		"proc same[t](a: ?t, b: ?t) returns bool where t has equal: proc(?t, ?t) returns bool is return a = b end",
		"proc v(n: int) returns bool is return same{null}(nil, nil) and same{int}(n, 5) end",
		"proc w(n: int) returns bool is return same{coin}(coin$make(n = 3), coin$make(true)) end",
		"proc x(n: int) returns bool is return same{array[int]}(array[int]$new(), array[int]$new()) end",
		"proc size[t](a: ?t) returns int where t has size: proc(?t) returns int is return ?t$size(a) end",
		"proc y(n: int) returns int is var a: array[bool] := array[bool]$new(); array[bool]$addh(a, true); return size{array[bool]}(a) + size{bag[int]}(bag[int]$new()) end",
		"proc pair[t](n: int) returns ?t where t has make: proc(int, bool) returns ?t is return ?t$make(n, true) end",
		"proc z(n: int) returns int is return pair{record[a:int,b:bool]}(n).a end",
	}
	p := programOf(t, sources...)
	for ref, want := range map[string][2]string{
		"p": {"3", "5"}, "q": {"5", "8"}, "r": {"5", "8"}, "s": {"3", "5"}, "v": {"false", "false"}, "w": {"true", "false"}, "x": {"false", "false"}, "y": {"1", "1"}, "z": {"3", "8"},
	} {
		for i, n := range []int{3, 8} {
			if r := askCall(t, p, nil, ref, []api.Value{{Kind: api.ValInt, N: n}}, many, 0); showEnd(r) != "done "+want[i] {
				t.Errorf("F2: %s(%d): %s, not %s", ref, n, showRan(r), want[i])
			}
		}
	}
}

// What no source says, but a program may: is_F, slots that loops share, a slot that is set anew in a loop.
func TestProgramsWithoutSource(t *testing.T) {
	p := programOf(t, "proc p(o: oneof[a:int,b:int]) returns bool is return o = o end")
	n := p.Cores[0].Nodes
	for i, name := range []string{"is_a", "is_b"} {
		q := copied(p)
		call := n[2]
		call.Name, call.Kids = name, []int{0}
		q.Cores[0].Nodes = []api.Node{n[0], call, {Kind: api.StReturn, Kids: []int{1}}, {Kind: api.StSeq, Kids: []int{2}}}
		for tag := range 2 {
			r := askCall(t, q, heap(fmt.Sprint("oneof", tag, " 5")), "p", vals("@0"), many, 0)
			if showEnd(r) != fmt.Sprint("done ", tag == i) {
				t.Errorf("F2: %s of the tag %d: %s", name, tag, showRan(r))
			}
		}
	}
	q := programOf(t, town, "proc p() is for x: int in upto(1, 2) do put x end; for y: int in upto(3, 4) do put y end; var z: int := 5; put z end")
	i := slices.IndexFunc(q.Cores, func(c api.Core) bool { return c.Name == "p" })
	c := &q.Cores[i]
	c.Slots = c.Slots[:1]
	for j := range c.Nodes {
		if k := c.Nodes[j].Kind; k == api.StFor || k == api.StSet || k == api.ExVar {
			c.Nodes[j].N = 0
		}
	}
	if r := askCall(t, q, nil, "p", nil, many, 0); showEnd(r) != "done put 1 2 3 4 5" {
		t.Errorf("F2: shared slots: %s", showRan(r))
	}
}

// F1: arguments and results of a module that is run.
func TestRunsOfModules(t *testing.T) {
	p := programOf(t, town, `
proc none() is end
proc six(a: int, b: bool, c: int, d: bool, e: int, f: bool) returns int is if b then return a end; if d then return c end; if f then return e end; return 0 end
proc turn(b: bool) returns bool is return not b end
proc minus(a: int) returns int signals (overflow) is return 0 - a end`)
	for _, x := range []struct {
		start string
		args  []int
		want  string
	}{
		{"none", nil, "done"},
		{"idle", []int{}, "done"},
		{"six", []int{1, 1, 2, 1, 3, 1}, "done 1"},
		{"six", []int{1, 0, 2, 1, 3, 1}, "done 2"},
		{"six", []int{1, 0, 2, 0, -1000000000, 1}, "done -1000000000"},
		{"six", []int{1, 0, 2, 0, 3, 0}, "done 0"},
		{"turn", []int{0}, "done true"},
		{"turn", []int{1}, "done false"},
		{"minus", []int{1000000000}, "done -1000000000"},
		{"minus", []int{-1000000000}, "done 1000000000"},
		{"say", []int{-3}, "done -3 put -3"},
	} {
		if r, e := mean.Run(p, x.start, x.args, many); e != api.OK || showEnd(r) != x.want {
			t.Errorf("F1: Run(%s, %d): %s, %d, not %s", x.start, x.args, showRan(r), e, x.want)
		}
	}
}

// F2: objects that are made stand behind the others, and those that are there stay where they are.
func TestHeapsOfCalls(t *testing.T) {
	p := programOf(t, town, "proc fill(a: array[box[int]], n: int) is while 0 < n do array[box[int]]$addh(a, box[int]$new(n)); n := n - 1 end end")
	for _, x := range []struct{ heap, ref, args, end, after string }{
		{"", "box[int]$new", "7", "done @0", "record 7"},
		{"record 1; array 5", "box[bool]$new", "true", "done @2", "record 1; array 5; record true"},
		{"record 1; record 2", "box[int]$get", "@1", "done 2", "record 1; record 2"},
		{"record 1; record 2", "box[int]$set", "@1 9", "done", "record 1; record 9"},
		{"record 4; array @0", "fill", "@1 2", "done", "record 4; array @0 @2 @3; record 2; record 1"},
		{"array 1 2 3", "bag[int]$add", "@0 2", "done", "array 1 2 3"},
		{"array 1 2 3", "bag[int]$add", "@0 4", "done", "array 1 2 3 4"},
		{"array 1 2 3; oneof0 nil", "list[int]$cons", "6 @1", "done @3", "array 1 2 3; oneof0 nil; record 6 @1; oneof1 @2"},
		{"oneof1 @1; record 6 @0", "list[int]$head", "@0", "done 6", "oneof1 @1; record 6 @0"},
		{"oneof0 nil", "list[int]$head", "@0", "signal failure", "oneof0 nil"},
	} {
		r, h := call(t, p, heap(x.heap), x.ref, x.args, many)
		if showEnd(r) != x.end || showHeap(h) != x.after {
			t.Errorf("F2: %s(%s) with %s: %s, %s, not %s, %s", x.ref, x.args, x.heap, showRan(r), showHeap(h), x.end, x.after)
		}
		askCall(t, p, heap(x.heap), x.ref, vals(x.args), many, 0)
	}
}
