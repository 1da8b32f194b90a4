package lower_test

import (
	"fmt"
	"slices"
	"strings"
	"testing"

	"argus/api"
)

// askMain asks how main ends that has no arguments.
func askMain(t *testing.T, source, want string) {
	t.Helper()
	if s := run(t, town(t, source)); s != want {
		t.Errorf("P9.2: %s: %s, not %s", source, s, want)
	}
}

// Each kind of node does what it does by its meaning.
func TestNodes(t *testing.T) {
	for _, x := range []struct{ rest, want string }{
		{"() is", "done"},
		{"() is put 7; put 0; put 1000000000", "done put 7 0 1000000000"},
		{"() returns int is return 1", "done 1"},
		{"() returns int is return 0", "done 0"},
		{"() returns bool is return true", "done 1"},
		{"() returns bool is return false", "done 0"},
		{"() is put 1; return; put 2", "done put 1"},
		{"() is var x: null := nil; var y: null := x; if x = y then put 1 end; if x = nil then put 2 end", "done put 1 2"},
		{"() is var x: int := 1; var y: int := 2; x := y; y := 3; x := x; put x; put y", "done put 2 3"},
		{"() is var x: int := 1; var y: int := x; x := x + y; y := x + x; put x; put y", "done put 2 4"},
		{"() is if true then put 1 end", "done put 1"},
		{"() is if false then put 1 end; put 2", "done put 2"},
		{"() is if false then put 1 elseif true then put 2 else put 3 end; put 4", "done put 2 4"},
		{"() is if false then put 1 elseif false then put 2 else put 3 end; put 4", "done put 3 4"},
		{"() is if true then return else put 1 end; put 2", "done"},
		{"() is if false then return else put 1 end; put 2", "done put 1 2"},
		{"() returns int is if true then return 1 else return 2 end; return 3", "done 1"},
		{"() is while false do put 1 end; put 2", "done put 2"},
		{"() is var i: int := 0; while i < 3 do put i; i := i + 1 end; put 9", "done put 0 1 2 9"},
		{"() is while true do put 1; break; put 2 end; put 3", "done put 1 3"},
		{"() is while true do while true do break end; put 1; break end; put 2", "done put 1 2"},
		{"() is var i: int := 0; while i < 2 do i := i + 1; var j: int := 0; while true do j := j + 1; if j = 3 then break end end; put i + j end", "done put 4 5"},
		{"() returns int is while true do return 4 end", "done 4"},
		{"() is idle(); say(3); put say(1) + say(2)", "done put 3 1 2 3"},
		{"() returns bool is return coin$heads(coin$make(false))", "done 0"},
		{"() is for x: int in upto(1, 3) do put x end; put 9", "done put 1 2 3 9"},
		{"() is for x: int in upto(1, 2) do for y: int in upto(x, 2) do put (x * 10) + y end end", "done put 11 12 22"},
		{"() is for x: int in upto(1, 9) do x := x + 5; put x; if 8 < x then return end end", "done put 6 7 8 9"},
		{"() is for x: int in upto(1, 9) do put x; break end; put 5", "done put 1 5"},
		{"() is for x: int in upto(1, 2) do while true do break end; put x end", "done put 1 2"},
		{"() is while true do for x: int in upto(1, 3) do put x; break end; put 7; break end", "done put 1 7"},
		{"() is for c: coin in coin$twice(coin$make(true)) do if coin$heads(c) then put 1 else put 0 end end", "done put 1 0"},
		{"() is for x: int in list[int]$each(list[int]$cons(1, list[int]$cons(2, list[int]$empty()))) do put x end", "done put 1 2"},
		{"() is tagcase oneof[a:int,b:bool]$make_a(5) tag b(y: bool): put 1 tag a(x: int): put x end; put 2", "done put 5 2"},
		{"() is tagcase oneof[a:int,b:bool,c:null]$make_c(nil) tag b(y: bool): put 1 tag c(z: null): put 3 tag a(x: int): put x end", "done put 3"},
		{"() is tagcase oneof[a:int,b:bool,c:null]$make_b(false) tag b(y: bool): if not y then put 1 end tag a(x: int): put x end", "done put 1"},
		{"() is tagcase oneof[a:int,b:bool,c:null]$make_c(nil) tag b(y: bool): put 1 tag a(x: int): put x end", "signal failure"},
		{"() signals (tag0) is tagcase oneof[a:int]$make_a(4) tag a(x: int): put x; x := 5; put x end", "done put 4 5"},
		{"() is var o: oneof[a:int,b:int] := oneof[a:int,b:int]$make_b(1); tagcase o tag b(x: int): x := 5; put x end; tagcase o tag b(y: int): put y end", "done put 5 1"},
	} {
		askMain(t, "proc main"+x.rest+" end", x.want)
	}
}

// Kids are evaluated in their order, and a variable that is an argument has the value that it had.
func TestOrder(t *testing.T) {
	for _, x := range []struct{ statements, put string }{
		{"put say(1) - (say(2) - say(3))", "1 2 3 2"},
		{"var b: bool := (say(1) = 2) and (say(2) = 2); if b then put 3 end", "1 2"},
		{"var b: bool := (say(1) = 1) or (say(2) = 2); if b then put 3 end", "1 2 3"},
		{"var a: array[int] := array[int]$new(); array[int]$addh(a, say(1)); a[say(1)] := say(2); put a[1]", "1 1 2 2"},
		{"var r: record[a:int,b:int] := record[a:int,b:int]$make(say(1), say(2)); put r.a; put r.b; r.a := say(3); put r.a; put r.b", "1 2 1 2 3 3 2"},
		{"for x: int in upto(say(1), say(2)) do put say(x) end", "1 2 1 1 2 2"},
		{"put least{int}(say(2), say(1))", "2 1 1"},
		{"var x: int := 2; x := (x * x) - (x + say(x)); put x", "2 0"},
		{"var a: array[int] := trio{int}(4, 5); a[1] := a[2] + a[1]; a := trio{int}(a[1], array[int]$size(a)); put a[1]; put a[2]", "9 3"},
		{"var b: bool := true; var o: oneof[l:bool,r:bool] := oneof[l:bool,r:bool]$make_r(b); b := not b; tagcase o tag r(c: bool): if c = (not b) then put 1 end end", "1"},
		{"var n: box[int] := box[int]$new(1); n := box[int]$new(box[int]$get(n) + 1); put box[int]$get(n)", "2"},
	} {
		askMain(t, "proc main() is "+x.statements+" end", "done put "+x.put)
	}
}

// Operations that are built in, at their limits, and their signals.
func TestOperations(t *testing.T) {
	for _, x := range []struct{ e, want string }{
		{"999999999 + 1", "done 1000000000"},
		{"1000000000 + 1", "signal overflow"},
		{"(0 - 999999999) - 1", "done -1000000000"},
		{"(0 - 1000000000) - 1", "signal overflow"},
		{"100000 * 10000", "done 1000000000"},
		{"31623 * 31623", "signal overflow"},
		{"(0 - 7) / 2", "done -4"},
		{"7 / (0 - 2)", "done -3"},
		{"(0 - 1000000000) / (0 - 1)", "done 1000000000"},
		{"1 / 0", "signal zerodivide"},
		{"(0 - 7) mod 2", "done 1"},
		{"7 mod (0 - 2)", "done 1"},
		{"(0 - 1000000000) mod (0 - 1)", "done 0"},
		{"1 mod 0", "signal zerodivide"},
		{"(as(1 < 2) + (as(2 < 2) * 10)) + (as(3 < 2) * 100)", "done 1"},
		{"(as(1 <= 2) + (as(2 <= 2) * 10)) + (as(3 <= 2) * 100)", "done 11"},
		{"as(1 = 2) + (as(2 = 2) * 10)", "done 10"},
		{"(as(true and true) + (as(true and false) * 10)) + (as(false and true) * 100)", "done 1"},
		{"(as(true or true) + (as(true or false) * 10)) + (as(false or false) * 100)", "done 11"},
		{"as(not false) + (as(not true) * 10)", "done 1"},
		{"(as(true = true) + (as(true = false) * 10)) + (as(false = false) * 100)", "done 101"},
		{"as(nil = nil)", "done 1"},
		{"as(array[int]$new() = array[int]$new())", "done 0"},
		{"array[bool]$size(array[bool]$new())", "done 0"},
		{"trio{int}(4, 5)[2]", "done 5"},
		{"trio{int}(4, 5)[4]", "signal bounds"},
		{"trio{int}(4, 5)[0]", "signal bounds"},
		{"array[int]$remh(trio{int}(4, 5))", "done 4"},
		{"array[int]$remh(array[int]$new())", "signal bounds"},
		{"box[int]$get(trio{box[int]}(box[int]$new(1), box[int]$new(2))[2])", "done 2"},
		{"box[int]$get(array[box[int]]$remh(trio{box[int]}(box[int]$new(1), box[int]$new(2))))", "done 1"},
		{"record[a:int,b:bool,c:int]$make(1, true, 3).c", "done 3"},
		{"as(record[a:int,b:bool,c:int]$make(1, true, 3).b)", "done 1"},
		{"as(record[a:int]$make(1) = record[a:int]$make(1))", "done 0"},
		{"(as(same{array[int]}(trio{int}(1, 2))) + (as(same{record[a:int]}(record[a:int]$make(1))) * 10)) + (as(same{oneof[a:int]}(oneof[a:int]$make_a(1))) * 100)", "done 111"},
		{"as(oneof[a:int,b:int]$make_a(1) = oneof[a:int,b:int]$make_a(1))", "done 0"},
	} {
		askMain(t, "proc as(b: bool) returns int is if b then return 1 end; return 0 end proc same[t](x: ?t) returns bool where t has equal: proc(?t, ?t) returns bool is return x = x end proc main() returns int signals (bounds, overflow, zerodivide) is return "+x.e+" end", x.want)
	}
	full := "proc main(n: int) returns int signals (bounds, overflow) is var a: array[int] := array[int]$new(); while 0 < n do array[int]$addh(a, n); n := n - 1 end; a[2] := 7; return a[2] + array[int]$size(a) end"
	for n, want := range map[int]string{200: "done 207", 201: "signal overflow", 1: "signal bounds", 2: "done 9"} {
		if s := run(t, town(t, full), n); s != want {
			t.Errorf("P9.2: main(%d): %s, not %s", n, s, want)
		}
	}
}

// What cannot be written in sources, since is is a reserved word: the operation is_F.
func TestTagsAreAsked(t *testing.T) {
	p := programOf(t, "proc main(n: int) returns bool is var o: oneof[a:int,b:null] := oneof[a:int,b:null]$make_a(n); if n < 0 then o := oneof[a:int,b:null]$make_b(nil) end; return o = o end")
	c := &p.Cores[0]
	at := len(c.Nodes) - 3
	if c.Nodes[at].Name != "equal" {
		t.Fatalf("%v", c.Nodes)
	}
	for part, want := range map[string][2]string{"is_a": {"done 1", "done 0"}, "is_b": {"done 0", "done 1"}} {
		q := copied(p)
		n := q.Cores[0].Nodes
		// The second kid of the call goes: what stands behind it has a number one less.
		n[at].Name, n[at].Kids = part, n[at].Kids[:1]
		n = slices.Delete(n, at-1, at)
		for i := at; i < len(n); i++ {
			n[i].Kids[len(n[i].Kids)-1]--
		}
		q.Cores[0].Nodes = n
		for i, arg := range []int{1, -1} {
			if s := run(t, q, arg); s != want[i] {
				t.Errorf("P9.2: %s of main(%d): %s, not %s", part, arg, s, want[i])
			}
		}
	}
}

// Objects are shared, also between a loop and its iterator.
func TestObjectsAreShared(t *testing.T) {
	for _, x := range []struct{ statements, put string }{
		{"var a: array[int] := array[int]$new(); var b: array[int] := a; array[int]$addh(a, 1); put array[int]$size(b); b[1] := 2; put a[1]", "1 2"},
		{"var c: count := count$new(); var d: count := c; count$next(c); put count$next(d); put count$get(c)", "2 2"},
		{"var b: bag[int] := bag[int]$new(); bag[int]$add(b, 5); bag[int]$add(b, 6); for x: int in bag[int]$each(b) do put x; if x < 9 then bag[int]$add(b, x + 2) end end", "5 6 7 8 9 10"},
		{"var b: box[box[int]] := box[box[int]]$new(box[int]$new(1)); box[int]$set(box[box[int]]$get(b), 2); put box[int]$get(box[box[int]]$get(b))", "2"},
	} {
		askMain(t, "proc main() is "+x.statements+" end", "done put "+x.put)
	}
}

// What words and references are, and how objects are made of them.
func TestObjectsAreMade(t *testing.T) {
	p := programOf(t, cell, `
cluster flag is make rep = bool proc make(b: bool) returns flag is return up(b) end end
proc main(n: int) is
  var a: array[flag] := array[flag]$new();
  var b: array[cell] := array[cell]$new();
  var r: record[a:cell,b:flag,c:null] := record[a:cell,b:flag,c:null]$make(cell$make(n), flag$make(true), nil);
  r.c := nil;
  r.a := r.a;
  var o: oneof[x:int,y:cell,z:flag] := oneof[x:int,y:cell,z:flag]$make_y(r.a);
  tagcase o tag z(f: flag): r.b := f tag y(c: cell): b[1] := c end
end`)
	f := lowered(t, p, "main")
	kinds := func(l []int) (s string) {
		for _, x := range l {
			s += fmt.Sprint(f.Regs[x])
		}
		return s
	}
	news := instructions(f, api.InsNew)
	if len(news) != 2 || news[0].N != 0 || news[1].N != 1 {
		t.Errorf("arrays of flags and cells: %v", news)
	}
	makes := instructions(f, api.InsMake)
	if len(makes) != 2 || makes[0].N != 0 || kinds(makes[0].Args) != "211" || makes[1].N != 1 || kinds(makes[1].Args) != "2" {
		t.Errorf("a record and a oneof: %v", makes)
	}
	sets := instructions(f, api.InsSet)
	if len(sets) != 3 || sets[0].N != 2 || sets[1].N != 0 || sets[2].N != 1 {
		t.Errorf("fields: %v", sets)
	}
	// n; a, b, r, o; f, c.
	if got := kinds([]int{0, 1, 2, 3, 4, 5, 6}); got != "1222212" {
		t.Errorf("slots: %s", got)
	}
	if l := called(f); strings.Join(l, " ") != "cell$make flag$make" {
		t.Errorf("what is built in is called: %q", l)
	}
}

// What is never done needs no code, and its calls are not among those of the flow.
func TestWhatIsNeverDone(t *testing.T) {
	for _, x := range []struct {
		body, calls string
		blocks      int
	}{
		{"return; idle()", "", 1},
		{"signal low; idle()", "", 1},
		{"while true do break; idle() end", "", 4},
		{"if true then return else signal low end; idle()", "", 3},
		{"begin put 1 except when others: idle() end", "", 1},
		{"begin return except when others: idle() end; idle()", "", 1},
		{"begin signal low except when high: idle() when low: put 1 when low: idle() when others: idle() end", "", 2},
		{"tagcase oneof[a:int]$make_a(1) tag a(x: int): return end; idle()", "", 1},
		{"idle(); for x: int in upto(1, 2) do return; idle() end", "idle upto", 5},
	} {
		p := town(t, "proc main() signals (low) is "+x.body+" end")
		f := lowered(t, p, "main")
		if calls := strings.Join(called(f), " "); calls != x.calls || len(f.Blocks) != x.blocks {
			t.Errorf("%s: %q, %d blocks", x.body, calls, len(f.Blocks))
		}
		run(t, p)
	}
}
