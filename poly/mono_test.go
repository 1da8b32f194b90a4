package poly_test

import (
	"fmt"
	"strings"
	"testing"

	"argus/api"
	"argus/check"
	"argus/mean"
	"argus/poly"
	"argus/sample"
	"argus/tree"
)

// G5: what comes out, as a source.
func TestMono(t *testing.T) {
	for _, x := range []struct{ source, start, want string }{
		{"proc p() is end proc q() is end", "p", "proc p() is end"},
		{"proc p() is end proc q() is end", "", ""},
		{"proc p() is end proc q() is end", "q p", "proc p() is end proc q() is end"},
		{
			"proc p() is q{int}(1); q{array[?]}(array[?]$new()); put 1 end proc q[t](a: ?t) is var b: ?t := a; var c: array[?t] := array[?t]$new() end",
			"p",
			"proc p() is i2(1); i1(array[int]$new()); put 1 end proc i1(v0: array[int]) is var v1: array[int] := v0; var v2: array[array[int]] := array[array[int]]$new() end proc i2(v0: int) is var v1: int := v0; var v2: array[int] := array[int]$new() end",
		},
		{
			// The outermost instance is replaced, and what is needed is not needed any more.
			"proc p() is var a: record[x:c[c[int]],y:c[int]] := record[x:c[c[int]],y:c[int]]$make(c[c[int]]$f(c[int]$f(1)), c[int]$f(2)) end cluster c[t] is f rep = oneof[l:?t,r:null] proc f(a: ?t) returns c[?t] is return up(oneof[l:?t,r:null]$make_l(a)) end end",
			"p",
			"proc p() is var v0: record[x:i1,y:i2] := record[x:i1,y:i2]$make(i1$f(i2$f(1)), i2$f(2)) end cluster i1 is f rep = oneof[l:i2,r:null] proc f(v0: i2) returns i1 is return up(oneof[l:i2,r:null]$make_l(v0)) end end cluster i2 is f rep = oneof[l:int,r:null] proc f(v0: int) returns i2 is return up(oneof[l:int,r:null]$make_l(v0)) end end",
		},
		{
			// Needs go, and the operations of the parameter come to be those of the argument.
			"proc least[t](a: ?t, b: ?t) returns ?t signals (none) where t has less: proc(?t, ?t) returns bool is if ?t$less(a, b) then return a end; signal none end cluster c is less rep = int proc less(a: c, b: c) returns bool is return down(a) < down(b) end end",
			"least[c]",
			"proc i1(v0: c, v1: c) returns c signals (none) is if c$less(v0, v1) then return v0 end; signal none end cluster c is less rep = int proc less(v0: c, v1: c) returns bool is return int$lt(down(v0), down(v1)) end end",
		},
		{
			"proc least[t](a: ?t, b: ?t) returns bool where t has lt: proc(?t, ?t) returns bool is return a < b end",
			"least[int]",
			"proc i1(v0: int, v1: int) returns bool is return int$lt(v0, v1) end",
		},
		{
			// Iterators, loops, parts of a oneof; operations that the face does not have.
			"cluster c[t] is each rep = oneof[l:?t,r:c[?t]] iter each(a: c[?t]) yields ?t is tagcase down(a) tag l(x: ?t): yield x tag r(y: c[?t]): for z: ?t in c[?t]$inner(y) do yield z end end end iter inner(a: c[?t]) yields ?t is for z: ?t in c[?t]$each(a) do yield z end end end",
			"c[bool]",
			"cluster i1 is each rep = oneof[l:bool,r:i1] iter each(v0: i1) yields bool is tagcase down(v0) tag l(v1: bool): yield v1 tag r(v2: i1): for v3: bool in i1$inner(v2) do yield v3 end end end iter inner(v0: i1) yields bool is for v1: bool in i1$each(v0) do yield v1 end end end",
		},
		{
			"iter p[t](a: ?t) yields ?t is yield a end proc q() is for x: int in p{int}(1) do put x end; for y: bool in p{bool}(true) do end end",
			"q",
			"iter i1(v0: bool) yields bool is yield v0 end iter i2(v0: int) yields int is yield v0 end proc q() is for v0: int in i2(1) do put v0 end; for v1: bool in i1(true) do end end",
		},
	} {
		source := strings.ReplaceAll(x.source, "array[?]", "array[int]")
		p := programOf(t, source)
		q := mono(t, p, list(x.start)...)
		want := check.CheckProgram(q) == api.OK && poly.CheckMono(q) == api.OK
		if got := sourceOf(t, q); !want || got != inOrder(t, x.want) {
			t.Errorf("G5: Mono(%s) of %s is\n%s", x.start, source, got)
		}
	}
}

// inOrder returns a source as it is printed, with its modules by name.
func inOrder(t *testing.T, source string) string {
	t.Helper()
	return sourceOf(t, programOf(t, source))
}

// G5: the order of faces and cores, and all that stays.
func TestMonoOrder(t *testing.T) {
	p := programOf(t, `
cluster z[t] is g, f rep = array[?t]
  proc g(a: z[?t]) signals (high, low) is z[?t]$b(a) end
  iter f() yields ?t is end
  proc a() is end
  proc b(a: z[?t]) is z[?t]$a() end
end
proc i2() is end
proc a(x: z[int], y: z[bool], n: z[z[int]]) is z[int]$g(x); z[bool]$g(y); i2() end`)
	q := mono(t, p, "a")
	if l := namesOf(q); show(l) != "a i1 i2 i3 i4" {
		t.Errorf("G5: %q", l)
	}
	if strings.Join(q.Reps, " ") != " array[bool]  array[int] array[i3]" {
		t.Errorf("G5: %q", q.Reps)
	}
	var l []string
	for _, c := range q.Cores {
		l = append(l, c.Owner+"."+c.Name)
	}
	if show(l) != ".a i1.g i1.f i1.a i1.b .i2 i3.g i3.f i3.a i3.b i4.g i4.f i4.a i4.b" {
		t.Errorf("G5: %q", l)
	}
	f := q.Faces[1]
	if f.Kind != api.ModCluster || f.Param || len(f.Needs) > 0 || len(f.Ops) != 2 || f.Ops[0].Name != "g" || show(f.Ops[0].Sig.Signals) != "high low" || !f.Ops[1].Sig.Iter || f.Ops[1].Sig.Result != "bool" {
		t.Errorf("G5: %+v", f)
	}
	before, after := core(t, p, "z", "g"), core(t, q, "i4", "g")
	for i, n := range after.Nodes {
		old := before.Nodes[i]
		if n.Kind != old.Kind || n.N != old.N || n.Name != old.Name || fmt.Sprint(n.Kids) != fmt.Sprint(old.Kids) {
			t.Errorf("G5: %+v, not %+v", n, old)
		}
	}
}

// G5: a program without parameters is not changed, but for what is not needed.
func TestMonoOfPlainPrograms(t *testing.T) {
	const source = "cluster c is f, g rep = record[a:d] proc f(a: c) returns d is return down(a).a end iter g() yields int signals (low) is put p(1); signal low end end cluster d is f rep = int proc f() is end end proc p(n: int) returns int is return n + 1 end proc r() is p(r1()) end proc r1() returns int is return 1 end"
	p := programOf(t, source)
	if e := poly.CheckMono(p); e != api.OK {
		t.Errorf("G5: CheckMono: %d", e)
	}
	if q := mono(t, p, namesOf(p)...); !same(p, q) {
		t.Errorf("P7.2: %v, not %v", q, p)
	}
	if q := mono(t, p, "c"); sourceOf(t, q) != inOrder(t, source[:strings.Index(source, "proc r()")]) {
		t.Errorf("G5: %s", sourceOf(t, q))
	}
}

// G5: which programs have no parameters.
func TestCheckMono(t *testing.T) {
	for source, want := range map[string]api.Errno{
		"proc p() is end":                                 api.OK,
		"proc p() is end proc q[t]() is end":              api.ErrParam,
		"proc q() is end iter p[t]() yields int is end":   api.ErrParam,
		"cluster c[t] is f rep = int proc f() is end end": api.ErrParam,
		"cluster c is f rep = int proc f() is end end":    api.OK,
	} {
		if e := poly.CheckMono(programOf(t, source)); e != want {
			t.Errorf("G5: CheckMono: %d of %s", e, source)
		}
	}
	if e := poly.CheckMono(api.Program{}); e != api.OK {
		t.Errorf("G5: CheckMono: %d of no modules", e)
	}
	if e := poly.CheckMono(notValid()); e != api.ErrProgram {
		t.Errorf("G5: CheckMono: %d", e)
	}
	p := programOf(t, "proc q[t]() is end")
	p.Cores[0].Nodes = nil
	if e := poly.CheckMono(p); e != api.ErrProgram {
		t.Errorf("G5: CheckMono: %d", e)
	}
}

// P7.3: runs of the example, with its steps.
func TestRunOfExample(t *testing.T) {
	p := programOf(t, set, `
proc main(n: int, b: bool) returns bool signals (zerodivide) is
  var s: set[int] := set[int]$new();
  var u: set[bool] := set[bool]$new();
  if b then return set[bool]$holds(u, b) end;
  return set[int]$holds(s, n / n)
end`)
	q := mono(t, p, "main")
	for _, args := range [][]int{{0, 0}, {1, 0}, {0, 1}, {5, 1}} {
		for _, steps := range []int{0, 1, 5, 17, 1000} {
			a, e := mean.Run(p, "main", args, steps)
			b, f := mean.Run(q, "main", args, steps)
			if e != api.OK || f != api.OK || !same(a, b) {
				t.Errorf("P7.3: %v, %d, not %v, %d", b, f, a, e)
			}
		}
	}
}

// G5 and P7.2 where a parameter is used by nothing but the own type: what is inside an argument is needed by the program with parameters alone.
func TestUnusedParameters(t *testing.T) {
	p := programOf(t, "proc p() is c[c[int]]$f() end cluster c[t] is f rep = int proc f() is end end")
	if l := all(t, p, "p"); show(l) != "c[c[int]] c[int] p" {
		t.Errorf("G3: %q", l)
	}
	q := mono(t, p, "p")
	if l := namesOf(q); show(l) != "i1 i2 p" || poly.CheckMono(q) != api.OK {
		t.Errorf("G5: %q", l)
	}
	if again := mono(t, q, "i1", "i2", "p"); !same(q, again) {
		t.Errorf("P7.2: %v, not %v", again, q)
	}
}

// G6: words and references.
func TestKindOf(t *testing.T) {
	p := programOf(t, sample.Town, `
cluster same[t] is f rep = ?t proc f() is end end
cluster flag is f rep = coin proc f() is end end
cluster unit is f rep = null proc f() is end end
cluster phantom[t] is f rep = int proc f() is end end
cluster tall[t] is f rep = array[array[array[?t]]] proc f() is end end`)
	for of, want := range map[string]uint8{
		"int": api.RegWord, "bool": api.RegWord, "null": api.RegWord, "coin": api.RegWord, "flag": api.RegWord, "unit": api.RegWord,
		"same[int]": api.RegWord, "same[same[bool]]": api.RegWord, "same[flag]": api.RegWord, "phantom[array[int]]": api.RegWord,
		"array[int]": api.RegRef, "record[a:int]": api.RegRef, "oneof[a:null,b:null]": api.RegRef, "count": api.RegRef, "box[int]": api.RegRef, "bag[int]": api.RegRef,
		"list[int]": api.RegRef, "same[array[int]]": api.RegRef, "same[count]": api.RegRef, "array[coin]": api.RegRef, "tall[int]": api.RegRef,
	} {
		if k, e := poly.KindOf(p, of); k != want || e != api.OK {
			t.Errorf("G6: KindOf(%s): %d, %d", of, k, e)
		}
	}
	for _, of := range []string{"", "?t", "array[?t]", "box", "box[?t]", "coin[int]", "other", "say", "bag[box[int]]", "least[int]", "array[]", "record[b:int,a:int]", "box[int]$get"} {
		if k, e := poly.KindOf(p, of); k != 0 || e != api.ErrArg {
			t.Errorf("G6: KindOf(%s): %d, %d", of, k, e)
		}
	}
	if k, e := poly.KindOf(p, "tall["+deepArg+"]"); k != 0 || e != api.ErrLimit {
		t.Errorf("G6: %d, %d", k, e)
	}
	if k, e := poly.KindOf(notValid(), "int"); k != 0 || e != api.ErrProgram {
		t.Errorf("G6: %d, %d", k, e)
	}
}

// Representations that lead back by way of a parameter have no bottom; what they need is found all the same.
func TestCircleOfRepresentations(t *testing.T) {
	l, f := tree.Parse("cluster a is f rep = b[a] proc f() is end end cluster b[t] is f rep = ?t proc f() is end end")
	p, g := check.Check(l)
	if f.Err != api.OK || g.Err != api.OK {
		t.Fatalf("%v, %v", f, g)
	}
	if k, e := poly.KindOf(p, "a"); k != 0 || e != api.ErrLimit {
		t.Errorf("G6: %d, %d", k, e)
	}
	if l := all(t, p, "a"); show(l) != "a b[a]" {
		t.Errorf("G3: %q", l)
	}
	if q := mono(t, p, "a"); show(namesOf(q)) != "a i1" || show(q.Reps) != "i1 a" {
		t.Errorf("G5: %v", q)
	}
}
