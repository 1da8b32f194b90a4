package poly_test

import (
	"slices"
	"strings"
	"testing"

	"argus/api"
	"argus/poly"
	"argus/sample"
)

// G1: a run can start with a procedure without a parameter whose types are int and bool.
func TestStart(t *testing.T) {
	p := programOf(t, `
cluster coin is make rep = bool proc make(b: bool) returns coin is return up(b) end end
cluster box[t] is new rep = array[?t] proc new() returns box[?t] is return up(array[?t]$new()) end end
iter upto(a: int, b: int) yields int is end
iter items[t](a: int) yields int is end
proc none() is end
proc both(a: int, b: bool, c: int) returns bool is return b end
proc loud(a: int) returns int signals (high, low) is return a end
proc nothing(a: null) is end
proc gives0() returns null is return nil end
proc many(a: int, b: array[int]) is end
proc gives() returns array[int] is return array[int]$new() end
proc coined(c: coin) is end
proc gives1() returns coin is return coin$make(true) end
proc open[t](a: int) returns int is return a end`)
	want := map[string]bool{
		"none": true, "both": true, "loud": true,
		"nothing": false, "gives0": false, "many": false, "gives": false, "coined": false, "gives1": false, "open": false,
		"upto": false, "items": false, "coin": false, "box": false,
	}
	for name, can := range want {
		if is, e := poly.Start(p, name); is != can || e != api.OK {
			t.Errorf("G1: Start(%s): %v, %d", name, is, e)
		}
	}
	for _, name := range []string{"", "other", "open[int]", "box[int]", "coin$make", "int", "Say", "array", " say"} {
		if is, e := poly.Start(p, name); is || e != api.ErrInst {
			t.Errorf("G1: Start(%s): %v, %d", name, is, e)
		}
	}
	if is, e := poly.Start(notValid(), "other"); is || e != api.ErrProgram {
		t.Errorf("G1: %v, %d", is, e)
	}
}

// Which texts are instances.
func TestInstances(t *testing.T) {
	p := programOf(t, sample.Town, "cluster phantom[t] is f rep = int proc f() is end end")
	deep := strings.Repeat("box[", 5) + "int" + strings.Repeat("]", 5)
	const limit = "box[record[aaaaaaaaaaaa:bool,bbbbbbbbbbbb:bool,cccccccccccc:bool,dddddddddddd:int,eeeeeeeeeeee:int]]"
	if len(limit) != api.MaxType {
		t.Errorf("%d bytes", len(limit))
	}
	right := []string{
		"coin", "say", "upto", "idle", "box[int]", "box[null]", "box[box[int]]", "box[array[coin]]", "box[record[a:int,b:coin]]", "box[oneof[a:bag[int]]]",
		"bag[int]", "bag[coin]", "bag[array[box[int]]]", "least[int]", "items[bool]", "items[bag[int]]", "phantom[phantom[int]]", deep, limit,
	}
	for _, text := range right {
		if l, e := poly.Names(p, []string{text}); e != api.OK || len(l) != 1 {
			t.Errorf("G4: %s: %q, %d", text, l, e)
		}
	}
	wrong := []string{
		"", "int", "bool", "null", "array[int]", "record[a:int]", "oneof[a:int]", "?t", "other", "other[int]", // no module
		"box", "bag", "least", "items", "coin[int]", "say[int]", "upto[int]", // a parameter too many or too few
		"box[?t]", "items[?t]", "box[array[?t]]", "least[?t]", // open
		"bag[box[int]]", "bag[bag[int]]", "least[bool]", "least[coin]", "box[bag[box[int]]]", "items[bag[box[int]]]", // what does not fit
		"box[other]", "box[box]", "box[say]", "items[least[int]]", "phantom[coin[int]]", // no types
		"box[]", "box[int", "box[int]]", "box{int}", "box[ int]", " box[int]", "box[int]$get", "box[int],", "coin$make", "Box[int]", "box[record[b:int,a:int]]", "\xff", "box[record[]]",
		"box[" + deep + "]", strings.Replace(limit, "int", "bool", 1), // too many levels, too long
	}
	for _, text := range wrong {
		for what, call := range calls(p) {
			if e := call([]string{text}); e != api.ErrInst {
				t.Errorf("%s: %s: %d, not ErrInst", what, text, e)
			}
		}
	}
}

// calls has the functions that have instances as arguments.
func calls(p api.Program) map[string]func(l []string) api.Errno {
	return map[string]func(l []string) api.Errno{
		"G2: Uses": func(l []string) api.Errno {
			out, e := poly.Uses(p, l[0])
			return unless(len(out) > 0, e)
		},
		"G3: All": func(l []string) api.Errno {
			out, e := poly.All(p, l)
			return unless(len(out) > 0, e)
		},
		"G3: CheckAll": func(l []string) api.Errno {
			is, e := poly.CheckAll(p, l, l)
			return unless(is, e)
		},
		"G4: Names": func(l []string) api.Errno {
			out, e := poly.Names(p, l)
			return unless(len(out) > 0, e)
		},
		"G5: Mono": func(l []string) api.Errno {
			q, e := poly.Mono(p, l)
			return unless(len(q.Faces)+len(q.Reps)+len(q.Cores) > 0, e)
		},
	}
}

// unless returns an error, or -1 if there is something beside it.
func unless(isThere bool, e api.Errno) api.Errno {
	if isThere && e != api.OK {
		return -1
	}
	return e
}

// Errors of functions with instances: a program that is not valid, too many, one that is none.
func TestErrorsOfInstances(t *testing.T) {
	p := programOf(t, sample.Town)
	some := func(n int, text string) []string { return strings.Fields(strings.Repeat(text+" ", n)) }
	for what, call := range calls(notValid()) {
		if e := call(some(21, "none")); e != api.ErrProgram {
			t.Errorf("%s: %d, not ErrProgram", what, e)
		}
	}
	for what, call := range calls(p) {
		if what == "G2: Uses" {
			continue
		}
		if e := call(some(21, "none")); e != api.ErrLimit {
			t.Errorf("%s: %d, not ErrLimit", what, e)
		}
		if e := call(some(21, "say")); e != api.ErrLimit {
			t.Errorf("%s: %d, not ErrLimit", what, e)
		}
		if e := call(some(20, "none")); e != api.ErrInst {
			t.Errorf("%s: %d, not ErrInst", what, e)
		}
		if e := call(append(some(19, "say"), "none")); e != api.ErrInst {
			t.Errorf("%s: %d, not ErrInst", what, e)
		}
	}
}

// G2: what is named, wherever it stands.
func TestUses(t *testing.T) {
	for _, x := range []struct{ source, i, want string }{
		{"proc p() is end", "p", ""},
		{"proc p(a: coin) is end", "p", "coin"},
		{"proc p(a: int, b: box[array[count]]) is end", "p", "box[array[count]] count"},
		{"proc p() returns record[a:int,b:box[coin]] is end", "p", "box[coin] coin"},
		{"iter p() yields bag[int] is end", "p", "bag[int]"},
		{"proc p() is var a: oneof[a:box[int],b:box[bool]] := oneof[a:box[int],b:box[bool]]$make_a(box[int]$new(1)) end", "p", "box[bool] box[int]"},
		{"proc p() is coin$make(true) end", "p", "coin"},
		{"proc p() is box[array[box[int]]]$new(array[box[int]]$new()) end", "p", "box[array[box[int]]] box[int]"},
		{"proc p() is array[box[int]]$new() end", "p", "box[int]"},
		// What is called is named itself, not what is inside it.
		{"proc p() is idle(); say(1); q{box[coin]}() end proc q[t]() is end", "p", "idle q[box[coin]] say"},
		{"proc p() is for x: int in upto(1, 2) do end end", "p", "upto"},
		{"proc p() is p(); q{int}(); q{int}() end proc q[t]() is end", "p", "p q[int]"},
		// An owner alone, without a value of the type.
		{"proc p() is phantom[coin]$f() end cluster phantom[t] is f rep = int proc f() is end end", "p", "coin phantom[coin]"},
		{"cluster c is f rep = box[coin] proc f() is end end", "c", "box[coin] coin"},
		{"cluster c is f rep = int proc f() is end proc g(a: coin) is end proc h() returns count is end end", "c", "coin count"},
		{"cluster c is f rep = int proc f(a: coin) returns count is end end", "c", "coin count"},
		{"cluster c is f rep = int proc f() is end proc g() is say(1); c$f() end end", "c", "c say"},
		{"cluster c is f rep = int proc f(a: c) is end end", "c", "c"},
		// A need is not named.
		{"cluster c[t] is f where t has g: proc(box[int], ?t) rep = int proc f() is end end cluster d is g rep = int proc g(a: box[int], b: d) is end end", "c[d]", ""},
		// With the argument put in.
		{"proc p[t](a: ?t) is end", "p[int]", ""},
		{"proc p[t](a: ?t) is end", "p[box[coin]]", "box[coin] coin"},
		{"proc p[t]() is end", "p[box[coin]]", ""},
		{"proc p[t](a: box[?t]) is end", "p[coin]", "box[coin] coin"},
		{"proc p[t]() is q{array[?t]}() end proc q[t]() is end", "p[coin]", "q[array[coin]]"},
		{"proc p[t](a: ?t) where t has f: proc(?t) is ?t$f(a) end cluster c is f rep = int proc f(a: c) is end end", "p[c]", "c"},
		{"cluster c[t] is f rep = array[?t] proc f() is end end", "c[box[int]]", "box[int]"},
		{"cluster c[t] is f rep = int proc f() is end proc g() is var x: array[?t] := array[?t]$new() end end", "c[c[int]]", "c[int]"},
		{"cluster c[t] is f rep = int proc f(a: c[?t]) is end end", "c[c[int]]", "c[c[int]] c[int]"},
		{"cluster c[t] is f rep = int proc f() is c[bool]$f() end end", "c[int]", "c[bool]"},
		// What other modules name is not asked.
		{"proc p() is q() end proc q() is idle() end", "p", "q"},
		{"cluster c is p rep = int proc p() is idle() end end proc p() is say(1) end", "p", "say"},
		{"cluster c is p rep = int proc p() is idle() end end proc p() is say(1) end", "c", "idle"},
	} {
		p := programOf(t, sample.Town, x.source)
		if l, e := poly.Uses(p, x.i); show(l) != x.want || e != api.OK {
			t.Errorf("G2: Uses(%s): %q, %d of %s", x.i, l, e, x.source)
		}
	}
}

// G2: a slot that is used by no node; no source makes one.
func TestUsesOfSlots(t *testing.T) {
	p := programOf(t, "cluster c is f rep = int proc f() is end end proc p[t]() is end")
	p.Cores[1].Slots = []string{"array[c]", "?t"}
	for i, want := range map[string]string{"p[int]": "c", "p[array[c]]": "c"} {
		if l, e := poly.Uses(p, i); show(l) != want || e != api.OK {
			t.Errorf("G2: Uses(%s): %q, %d", i, l, e)
		}
	}
	p.Cores[1].Slots[0] = "array[array[?t]]"
	if l, e := poly.Uses(p, "p["+deepArg+"]"); len(l) > 0 || e != api.ErrDeep {
		t.Errorf("G2: %q, %d", l, e)
	}
	p.Cores[1].Slots[1] = "c"
	if q := mono(t, p, "p[int]"); show(core(t, q, "", "i1").Slots) != "array[array[int]] c" {
		t.Errorf("G5: %v", q)
	}
}

// The argument of the tests of what is too deep: 77 bytes in two levels, or 6 bytes in five levels.
var (
	longArg = "record[aaaaaaaaaaaa:int,bbbbbbbbbbbb:int,cccccccccccc:int,dddddddddddd:int]"
	deepArg = "array[array[array[array[int]]]]"
)

// G2: a type that comes to be too long, or has too many levels, wherever it stands.
func TestUsesTooDeep(t *testing.T) {
	for _, x := range []struct{ front, behind string }{
		{"proc p[t](a: ", ") is end"},
		{"proc p[t]() returns ", " is end"},
		{"iter p[t]() yields ", " is end"},
		{"proc p[t](n: int) is if n = 0 then var v: ", " := q{?t}() end end proc q[t]() returns TYPE is end"},
		{"proc p[t]() is q{", "}() end proc q[t]() is end"},
		{"proc p[t]() is q{?t}() end proc q[t]() returns ", " is end"},
		{"proc p[t]() is phantom[", "]$f() end"},
		{"cluster p[t] is f rep = ", " proc f() is end end"},
		{"cluster p[t] is f rep = int proc f(a: ", ") is end end"},
		{"cluster p[t] is f rep = int proc f() is end proc g() returns ", " is end end"},
		{"cluster p[t] is f rep = int proc f() is phantom[", "]$f() end end"},
	} {
		for open, arg := range map[string]string{"record[l:?t,r:array[array[array[int]]]]": longArg, "array[array[?t]]": deepArg} {
			source := strings.ReplaceAll(x.front+open+x.behind, "TYPE", open)
			p := programOf(t, "cluster phantom[t] is f rep = int proc f() is end end", source)
			if l, e := poly.Uses(p, "p[int]"); e != api.OK {
				t.Errorf("G2: %q, %d of %s", l, e, source)
			}
			if l, e := poly.Uses(p, "p["+arg+"]"); len(l) > 0 || e != api.ErrDeep {
				t.Errorf("G2: %q, %d of %s", l, e, source)
			}
			if q, e := poly.Mono(p, []string{"p[int]", "p[" + arg + "]"}); len(q.Faces) > 0 || e != api.ErrDeep {
				t.Errorf("G5: %q, %d of %s", namesOf(q), e, source)
			}
		}
	}
}

// G2: a type of a need that would be too long is none of the types in an instance; what does not fit for it is no instance.
func TestUsesOfLongNeeds(t *testing.T) {
	const source = `
cluster m[t] is f rep = int proc f(a: m[?t], b: record[a:m[?t],b:m[?t]]) is end end
cluster c[t] is g where t has f: proc(?t, record[a:?t,b:?t]) rep = int proc g() is end end
proc s[t]() where t has f: proc(?t, record[a:?t,b:?t]) is end
proc p[t](a: c[m[?t]]) is end
proc o[t]() is c[m[?t]]$g() end
proc q[t]() is s{m[?t]}() end
proc r[t]() is s{m[?t]}(); s{m[bool]}() end`
	p := programOf(t, source)
	for _, x := range []struct{ i, uses, long string }{
		{"p", "c[m[int]] m[int]", "m[" + longArg + "]"},
		{"o", "c[m[int]] m[int]", "m[" + longArg + "]"},
		{"q", "s[m[int]]", ""},
		{"r", "s[m[bool]] s[m[int]]", "s[m[bool]]"},
	} {
		for arg, want := range map[string]string{"int": x.uses, longArg: x.long} {
			if l, e := poly.Uses(p, x.i+"["+arg+"]"); show(l) != want || e != api.OK {
				t.Errorf("G2: Uses(%s[%s]): %q, %d", x.i, arg, l, e)
			}
		}
	}
	for _, i := range []string{"c[m[" + longArg + "]]", "s[m[" + longArg + "]]"} {
		if _, e := poly.Names(p, []string{i}); e != api.ErrInst {
			t.Errorf("G4: %d", e)
		}
	}
}

// G3: a type with an operation that is too long is needed where something does not fit, but for calls.
func TestAllOfLongNeeds(t *testing.T) {
	const source = `
cluster m[t] is f rep = int proc f(a: array[array[m[?t]]]) is end end
cluster c[t] is g where t has f: proc(array[array[?t]]) rep = int proc g() is end end
proc s[t]() where t has f: proc(array[array[?t]]) is end
proc p[t](a: c[m[?t]]) is end
proc q[t]() is s{m[?t]}() end`
	const arg = "array[array[array[int]]]"
	p := programOf(t, source)
	if l, e := poly.Uses(p, "p["+arg+"]"); show(l) != "m["+arg+"]" || e != api.OK {
		t.Errorf("G2: %q, %d", l, e)
	}
	if l, e := poly.All(p, []string{"p[" + arg + "]"}); len(l) > 0 || e != api.ErrDeep {
		t.Errorf("G3: %q, %d", l, e)
	}
	if is, e := poly.CheckAll(p, nil, []string{"m[" + arg + "]", "p[" + arg + "]"}); is || e != api.OK {
		t.Errorf("G3: %v, %d", is, e)
	}
	called := []string{"q[" + arg + "]"}
	if l := all(t, p, called...); !slices.Equal(l, called) {
		t.Errorf("G3: %q", l)
	}
	if is, e := poly.CheckAll(p, called, called); !is || e != api.OK {
		t.Errorf("G3: %v, %d", is, e)
	}
	// There is no program in which it calls what is no instance.
	if q, e := poly.Mono(p, called); len(q.Faces) > 0 || e != api.ErrDeep {
		t.Errorf("G5: %q, %d", namesOf(q), e)
	}
}
