package mean_test

import (
	"fmt"
	"strings"
	"testing"

	"argus/api"
	"argus/mean"
)

// Operations of ints and bools, also at the limits.
func TestOperationsOfNumbers(t *testing.T) {
	var sources []string
	for name, op := range map[string]string{"add": "+", "sub": "-", "mul": "*", "div": "/", "rest": "mod"} {
		sources = append(sources, fmt.Sprintf("proc %s(a: int, b: int) returns int signals (overflow, zerodivide) is return a %s b end", name, op))
	}
	for name, op := range map[string]string{"less": "<", "le": "<=", "same": "="} {
		sources = append(sources, fmt.Sprintf("proc %s(a: int, b: int) returns bool is return a %s b end", name, op))
	}
	for name, op := range map[string]string{"both": "and", "either": "or", "equal": "="} {
		sources = append(sources, fmt.Sprintf("proc %s(a: bool, b: bool) returns bool is return a %s b end", name, op))
	}
	sources = append(sources, "proc turn(a: bool) returns bool is return not a end")
	p := programOf(t, sources...)
	for _, line := range strings.Split(strings.TrimSpace(`
add 2 3: done 5
add -2 3: done 1
add 999999999 1: done 1000000000
add 1000000000 1: signal overflow
add 1000000000 1000000000: signal overflow
add -999999999 -1: done -1000000000
add -1000000000 -1: signal overflow
add 1000000000 -1000000000: done 0
sub 2 3: done -1
sub -999999999 1: done -1000000000
sub -1000000000 1: signal overflow
sub 1000000000 -1: signal overflow
sub -1000000000 1000000000: signal overflow
sub 1000000000 1000000000: done 0
mul -2 3: done -6
mul 100000 10000: done 1000000000
mul 100000 -10000: done -1000000000
mul 31623 31623: signal overflow
mul -31623 31623: signal overflow
mul 500000000 2: done 1000000000
mul 500000001 2: signal overflow
mul 1000000000 1000000000: signal overflow
mul -1000000000 1000000000: signal overflow
mul 65536 65536: signal overflow
mul 1000000000 0: done 0
mul -1000000000 -1: done 1000000000
div 7 2: done 3
div -7 2: done -4
div 7 -2: done -3
div -7 -2: done 4
div 6 -2: done -3
div -6 -2: done 3
div 0 -5: done 0
div 1 1000000000: done 0
div -1 1000000000: done -1
div -1 -1000000000: done 1
div -1000000000 -1: done 1000000000
div 1000000000 -1: done -1000000000
div -1000000000 1: done -1000000000
div 5 0: signal zerodivide
div 0 0: signal zerodivide
rest 7 2: done 1
rest -7 2: done 1
rest 7 -2: done 1
rest -7 -2: done 1
rest -6 2: done 0
rest -1 1000000000: done 999999999
rest -1 -1000000000: done 999999999
rest 1000000000 -1: done 0
rest 5 0: signal zerodivide
rest 0 0: signal zerodivide
less 1 2: done true
less 2 2: done false
less 3 2: done false
less -3 2: done true
less -1000000000 1000000000: done true
le 1 2: done true
le 2 2: done true
le 3 2: done false
same 2 2: done true
same 2 3: done false
same -1 1: done false
both 0 0: done false
both 0 1: done false
both 1 0: done false
both 1 1: done true
either 0 0: done false
either 0 1: done true
either 1 0: done true
either 1 1: done true
equal 0 0: done true
equal 0 1: done false
equal 1 0: done false
equal 1 1: done true
turn 0: done true
turn 1: done false`), "\n") {
		text, want, _ := strings.Cut(line, ": ")
		name, rest, _ := strings.Cut(text, " ")
		var args []int
		for _, v := range vals(rest) {
			args = append(args, v.N)
		}
		if r, e := mean.Run(p, name, args, many); e != api.OK || showEnd(r) != want {
			t.Errorf("F1: %s: %s, %d, not %s", text, showRan(r), e, want)
		}
	}
	askDivisions(t, p)
}

// askDivisions asks whether a = q * b + r, with r from 0 to b without its sign, less 1.
func askDivisions(t *testing.T, p api.Program) {
	t.Helper()
	for a := -13; a <= 13; a++ {
		for b := -6; b <= 6; b++ {
			q, e := mean.Run(p, "div", []int{a, b}, many)
			r, f := mean.Run(p, "rest", []int{a, b}, many)
			switch {
			case e != api.OK || f != api.OK:
				t.Errorf("F1: %d, %d", e, f)
			case b == 0:
				if showEnd(q) != "signal zerodivide" || showEnd(r) != "signal zerodivide" {
					t.Errorf("F1: %d, %d: %s, %s", a, b, showRan(q), showRan(r))
				}
			case q.Value.N*b+r.Value.N != a || r.Value.N < 0 || r.Value.N >= max(b, -b):
				t.Errorf("F1: %d, %d: %s, %s", a, b, showRan(q), showRan(r))
			}
		}
	}
}

// Operations of arrays, records, oneofs and null, one of each after the other, on objects of a heap.
func TestOperationsOfObjects(t *testing.T) {
	full := strings.TrimSpace("array" + strings.Repeat(" 7", api.MaxArray))
	most := strings.TrimSpace("array" + strings.Repeat(" 7", api.MaxArray-1))
	for _, x := range []struct{ sig, expr, heap, args, end, after string }{
		{"() returns array[int]", "return array[int]$new()", "", "", "done @0", "array"},
		{"() returns array[int]", "return array[int]$new()", "array 1; record 2", "", "done @2", "array 1; record 2; array"},
		{"(a: array[int]) returns int", "return array[int]$size(a)", "array", "@0", "done 0", "array"},
		{"(a: array[int]) returns int", "return array[int]$size(a)", "array 5 6 7", "@0", "done 3", "array 5 6 7"},
		{"(a: array[int]) returns int", "return array[int]$size(a)", full, "@0", "done 200", full},
		{"(a: array[int]) signals (overflow)", "array[int]$addh(a, 7)", "array", "@0", "done", "array 7"},
		{"(a: array[int]) signals (overflow)", "array[int]$addh(a, 7)", "array 5; array 6", "@1", "done", "array 5; array 6 7"},
		{"(a: array[int]) signals (overflow)", "array[int]$addh(a, 7)", most, "@0", "done", full},
		{"(a: array[int]) signals (overflow)", "array[int]$addh(a, 7)", full, "@0", "signal overflow", full},
		{"(a: array[int]) returns int signals (bounds)", "return array[int]$remh(a)", "array", "@0", "signal bounds", "array"},
		{"(a: array[int]) returns int signals (bounds)", "return array[int]$remh(a)", "array 5", "@0", "done 5", "array"},
		{"(a: array[int]) returns int signals (bounds)", "return array[int]$remh(a)", "array 5 6 7", "@0", "done 7", "array 5 6"},
		{"(a: array[int]) signals (bounds)", "array[int]$remh(a); array[int]$addh(a, 9)", "array 5 6", "@0", "done", "array 5 9"},
		{"(a: array[int], i: int) returns int signals (bounds)", "return a[i]", "array 5 6 7", "@0 1", "done 5", "array 5 6 7"},
		{"(a: array[int], i: int) returns int signals (bounds)", "return a[i]", "array 5 6 7", "@0 3", "done 7", "array 5 6 7"},
		{"(a: array[int], i: int) returns int signals (bounds)", "return a[i]", "array 5 6 7", "@0 0", "signal bounds", "array 5 6 7"},
		{"(a: array[int], i: int) returns int signals (bounds)", "return a[i]", "array 5 6 7", "@0 4", "signal bounds", "array 5 6 7"},
		{"(a: array[int], i: int) returns int signals (bounds)", "return a[i]", "array 5 6 7", "@0 -1", "signal bounds", "array 5 6 7"},
		{"(a: array[int], i: int) returns int signals (bounds)", "return a[i]", "array", "@0 1", "signal bounds", "array"},
		{"(a: array[int], i: int) signals (bounds)", "a[i] := 9", "array 5 6 7", "@0 1", "done", "array 9 6 7"},
		{"(a: array[int], i: int) signals (bounds)", "a[i] := 9", "array 5 6 7", "@0 3", "done", "array 5 6 9"},
		{"(a: array[int], i: int) signals (bounds)", "a[i] := 9", "array 5 6 7", "@0 0", "signal bounds", "array 5 6 7"},
		{"(a: array[int], i: int) signals (bounds)", "a[i] := 9", "array 5 6 7", "@0 4", "signal bounds", "array 5 6 7"},
		{"(a: array[int], b: array[int]) returns bool", "return a = b", "array 1; array 1", "@0 @1", "done false", "array 1; array 1"},
		{"(a: array[int], b: array[int]) returns bool", "return a = b", "array 1; array 1", "@1 @1", "done true", "array 1; array 1"},
		{"() returns record[a:int,b:bool,c:null]", "return record[a:int,b:bool,c:null]$make(4, true, nil)", "", "", "done @0", "record 4 true nil"},
		{"(r: record[a:int,b:bool,c:null]) returns int", "return r.a", "record 4 true nil", "@0", "done 4", "record 4 true nil"},
		{"(r: record[a:int,b:bool,c:null]) returns bool", "return r.b", "record 4 true nil", "@0", "done true", "record 4 true nil"},
		{"(r: record[a:int,b:bool,c:null]) returns null", "return r.c", "record 4 true nil", "@0", "done nil", "record 4 true nil"},
		{"(r: record[a:int,b:int,c:int])", "r.a := 9", "record 1 2 3", "@0", "done", "record 9 2 3"},
		{"(r: record[a:int,b:int,c:int])", "r.b := 9", "record 1 2 3", "@0", "done", "record 1 9 3"},
		{"(r: record[a:int,b:int,c:int])", "r.c := 9", "record 1 2 3", "@0", "done", "record 1 2 9"},
		{"(a: record[v:int], b: record[v:int]) returns bool", "return a = b", "record 1; record 1", "@0 @1", "done false", "record 1; record 1"},
		{"(a: record[v:int], b: record[v:int]) returns bool", "return a = b", "record 1; record 1", "@0 @0", "done true", "record 1; record 1"},
		{"() returns oneof[a:int,b:bool,c:null]", "return oneof[a:int,b:bool,c:null]$make_a(4)", "", "", "done @0", "oneof0 4"},
		{"() returns oneof[a:int,b:bool,c:null]", "return oneof[a:int,b:bool,c:null]$make_b(true)", "", "", "done @0", "oneof1 true"},
		{"() returns oneof[a:int,b:bool,c:null]", "return oneof[a:int,b:bool,c:null]$make_c(nil)", "", "", "done @0", "oneof2 nil"},
		{"(a: oneof[v:int], b: oneof[v:int]) returns bool", "return a = b", "oneof0 1; oneof0 1", "@0 @1", "done false", "oneof0 1; oneof0 1"},
		{"(a: oneof[v:int], b: oneof[v:int]) returns bool", "return a = b", "oneof0 1; oneof0 1", "@1 @1", "done true", "oneof0 1; oneof0 1"},
		{"(a: null, b: null) returns bool", "return a = b", "", "nil nil", "done true", ""},
		{"(o: oneof[a:int,b:int,c:int]) returns int", "tagcase o tag c(x: int): return x + 1 tag a(y: int): return y + 2 tag b(z: int): return z + 3 end", "oneof0 10", "@0", "done 12", "oneof0 10"},
		{"(o: oneof[a:int,b:int,c:int]) returns int", "tagcase o tag c(x: int): return x + 1 tag a(y: int): return y + 2 tag b(z: int): return z + 3 end", "oneof1 10", "@0", "done 13", "oneof1 10"},
		{"(o: oneof[a:int,b:int,c:int]) returns int", "tagcase o tag c(x: int): return x + 1 tag a(y: int): return y + 2 tag b(z: int): return z + 3 end", "oneof2 10", "@0", "done 11", "oneof2 10"},
	} {
		p := programOf(t, "proc p"+x.sig+" is "+x.expr+" end")
		r, h := call(t, p, heap(x.heap), "p", x.args, many)
		if showEnd(r) != x.end || showHeap(h) != x.after {
			t.Errorf("F2: %s of %s: %s, %s, not %s, %s", x.expr, x.heap, showRan(r), showHeap(h), x.end, x.after)
		}
		askCall(t, p, heap(x.heap), "p", vals(x.args), many, 0)
	}
}

// Parts are found by whole names.
func TestPartsByName(t *testing.T) {
	const r = "record[a:int,ab:int,b:int,get:int,make:int,set:int]"
	p := programOf(t, "proc p() is var r: "+r+" := "+r+"$make(1, 2, 3, 4, 5, 6); put r.a; put r.ab; put r.b; put r.get; put r.make; put r.set; r.ab := 7; r.make := 8; put r.ab; put r.make end")
	if x := askCall(t, p, nil, "p", nil, many, 0); showEnd(x) != "done put 1 2 3 4 5 6 7 8" {
		t.Errorf("F2: %s", showRan(x))
	}
	const o = "oneof[a:int,ab:int,b:int,make:int]"
	for i, name := range []string{"a", "ab", "b", "make"} {
		p := programOf(t, "proc p() returns "+o+" is return "+o+"$make_"+name+"(5) end")
		_, h := call(t, p, nil, "p", "", many)
		if want := fmt.Sprint("oneof", i, " 5"); showHeap(h) != want {
			t.Errorf("F2: %s: %s", name, showHeap(h))
		}
	}
}
