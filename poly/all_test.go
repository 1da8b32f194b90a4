package poly_test

import (
	"fmt"
	"slices"
	"strings"
	"testing"

	"argus/api"
	"argus/poly"
	"argus/sample"
)

// chain has procedures that need each other: a needs b, which needs c and d.
const chain = `
proc a() is b{int}() end
proc b[t]() is c{?t}(); d() end
proc c[t]() is c{?t}() end
proc d() is end
proc e() is c{bool}() end
`

// G3: what is needed by what is named, however far away.
func TestAll(t *testing.T) {
	p := programOf(t, chain)
	for _, x := range []struct{ start, want string }{
		{"", ""},
		{"d", "d"},
		{"c[null]", "c[null]"},
		{"a", "a b[int] c[int] d"},
		{"b[bool]", "b[bool] c[bool] d"},
		{"e d", "c[bool] d e"},
		{"e a", "a b[int] c[bool] c[int] d e"},
		{"d e d a e", "a b[int] c[bool] c[int] d e"},
		{"b[bool] e", "b[bool] c[bool] d e"},
	} {
		if l := all(t, p, list(x.start)...); show(l) != x.want {
			t.Errorf("G3: All(%s): %q", x.start, l)
		}
	}
	q := programOf(t, sample.Town)
	for _, x := range []struct{ start, want string }{
		{"count", "box[int] count"},
		{"bag[coin]", "bag[coin] coin items[coin]"},
		{"list[bag[int]]", "bag[int] items[int] list[bag[int]]"},
		{"box[array[box[int]]]", "box[array[box[int]]] box[int]"},
		{"least[int]", "least[int]"},
	} {
		if l := all(t, q, list(x.start)...); show(l) != x.want {
			t.Errorf("G3: All(%s): %q", x.start, l)
		}
	}
}

// wide has a procedure that needs n instances of another one.
func wide(n int) string {
	s := "proc other[t]() is end proc p() is "
	for i := range n {
		s += fmt.Sprintf("other{record[a%d:int]}(); ", i)
	}
	return s + "put 1 end"
}

// G3: there are at most 20 instances.
func TestManyInstances(t *testing.T) {
	if l := all(t, programOf(t, wide(19)), "p"); len(l) != 20 || l[19] != "p" || l[0] != "other[record[a0:int]]" {
		t.Errorf("G3: %q", l)
	}
	p := programOf(t, wide(20))
	if l, e := poly.All(p, []string{"p"}); len(l) > 0 || e != api.ErrDeep {
		t.Errorf("G3: %q, %d", l, e)
	}
	if q, e := poly.Mono(p, []string{"p"}); len(q.Faces) > 0 || e != api.ErrDeep {
		t.Errorf("G5: %q, %d", namesOf(q), e)
	}
	// One instance may name more than there may be.
	l, e := poly.Uses(p, "p")
	if len(l) != 20 || e != api.OK {
		t.Errorf("G2: %q, %d", l, e)
	}
	if all := all(t, p, l...); !slices.Equal(all, l) {
		t.Errorf("G3: %q", all)
	}
	if is, e := poly.CheckAll(p, l, l); !is || e != api.OK {
		t.Errorf("G3: %v, %d", is, e)
	}
	if is, e := poly.CheckAll(p, []string{"p"}, append(l, "p")); is || e != api.OK {
		t.Errorf("G3: %v, %d", is, e)
	}
	// A list of 20 starts that need a further one.
	if l, e := poly.All(p, append(l[:19], "p")); len(l) > 0 || e != api.ErrDeep {
		t.Errorf("G3: %q, %d", l, e)
	}
}

// G3: instances that need ever larger ones.
func TestEndlessInstances(t *testing.T) {
	for _, source := range []string{
		"proc p[t]() is p{array[?t]}() end",
		"proc p[t]() is p{record[aaaaaaaaaaaa:?t]}() end",
		"proc p[t]() is q{?t}() end proc q[t]() is p{oneof[a:?t,b:?t]}() end",
		"cluster p[t] is f rep = int proc f() is p[p[?t]]$f() end end",
		"cluster p[t] is f rep = array[?t] proc f(a: p[record[a:?t,b:p[?t]]]) is end end",
	} {
		p := programOf(t, source)
		if l, e := poly.All(p, []string{"p[int]"}); len(l) > 0 || e != api.ErrDeep {
			t.Errorf("G3: %q, %d of %s", l, e, source)
		}
		if q, e := poly.Mono(p, []string{"p[int]"}); len(q.Faces) > 0 || e != api.ErrDeep {
			t.Errorf("G5: %q, %d of %s", namesOf(q), e, source)
		}
		if is, e := poly.CheckAll(p, []string{"p[int]"}, []string{"p[int]"}); is || e != api.OK {
			t.Errorf("G3: %v, %d of %s", is, e, source)
		}
	}
}

// G3: lists that have all that is needed, and such as have not.
func TestCheckAll(t *testing.T) {
	p := programOf(t, chain)
	for _, x := range []struct {
		start, l string
		want     bool
	}{
		{"", "", true},
		{"", "d", true},
		{"a", "a b[int] c[int] d", true},
		{"a d", "a b[int] c[int] d", true},
		{"d a d", "a b[int] c[int] d", true},
		{"", "a b[int] c[int] d", true},
		{"b[int]", "a b[int] c[int] d", true},
		{"a", "a b[int] c[bool] c[int] d e", true},
		{"a", "a b[int] c[int] c[null] d", true},
		{"a", "", false},
		{"a", "d", false},
		{"a", "b[int] c[int] d", false},
		{"a", "a c[int] d", false},
		{"a", "a b[int] d", false},
		{"a", "a b[int] c[int]", false},
		{"a e", "a b[int] c[int] d", false},
		{"a", "a b[bool] b[int] c[int] d", false},
		{"a", "a b[int] c[int] d e", false},
		{"a", "b[int] a c[int] d", false},
		{"a", "a b[int] c[int] d d", false},
		{"a", "a a b[int] c[int] d", false},
		{"a", "a b[int] c c[int] d", false},
		{"a", "a b[int] c[int] d f", false},
		{"a", "a b[int] c[?t] c[int] d", false},
		{"a", "a b[int] c[int] d int", false},
	} {
		if is, e := poly.CheckAll(p, list(x.start), list(x.l)); is != x.want || e != api.OK {
			t.Errorf("G3: CheckAll(%s; %s): %v, %d", x.start, x.l, is, e)
		}
	}
	if is, e := poly.CheckAll(p, list("d"), []string{"", "d"}); is || e != api.OK {
		t.Errorf("G3: %v, %d", is, e)
	}
	var many []string
	for i := range 30 {
		many = append(many, fmt.Sprintf("c[record[a%02d:int]]", i))
	}
	for n, want := range map[int]bool{19: true, 20: true, 21: false, 30: false} {
		if is, e := poly.CheckAll(p, nil, many[:n]); is != want || e != api.OK {
			t.Errorf("G3: %d instances: %v, %d", n, is, e)
		}
	}
	// Errors are those of the program and of the starts alone.
	if is, e := poly.CheckAll(p, list("f"), list("f")); is || e != api.ErrInst {
		t.Errorf("G3: %v, %d", is, e)
	}
	if is, e := poly.CheckAll(notValid(), nil, nil); is || e != api.ErrProgram {
		t.Errorf("G3: %v, %d", is, e)
	}
}

// G3: in a list a type that is too deep refuses the list.
func TestCheckAllTooDeep(t *testing.T) {
	p := programOf(t, "proc p[t](a: array[array[?t]]) is end")
	for arg, want := range map[string]bool{"int": true, deepArg: false} {
		l := []string{"p[" + arg + "]"}
		for _, start := range [][]string{nil, l} {
			if is, e := poly.CheckAll(p, start, l); is != want || e != api.OK {
				t.Errorf("G3: %q of %q: %v, %d", l, start, is, e)
			}
		}
	}
}

// G4: names are given to instances with an argument, in the order of their texts.
func TestNames(t *testing.T) {
	for _, x := range []struct{ more, l, want string }{
		{"", "", ""},
		{"", "idle say", "idle say"},
		{"", "coin count deep", "coin count deep"},
		{"", "bag[int] box[int] coin items[int]", "i1 i2 coin i3"},
		{"", "bag[bool] bag[int] bag[null] box[box[int]]", "i1 i2 i3 i4"},
		{"", "box[int]", "i1"},
		{"proc i1() is end", "box[int] list[int]", "i2 i3"},
		{"proc i1() is end", "box[int] i1 list[int]", "i2 i1 i3"},
		{"proc i2() is end", "box[int] list[int]", "i1 i3"},
		{"proc i1[t]() is end iter i2() yields int is end cluster i4 is f rep = int proc f() is end end", "box[int] i1[int] list[int] trio[int]", "i3 i5 i6 i7"},
		{"proc i10() is end proc i0() is end proc i01() is end proc i() is end", "bag[bool] bag[int] bag[null] box[bool] box[int] box[null] list[bool] list[int] list[null] trio[bool] trio[int]", "i1 i2 i3 i4 i5 i6 i7 i8 i9 i11 i12"},
	} {
		p := programOf(t, sample.Town, x.more)
		if l, e := poly.Names(p, list(x.l)); show(l) != x.want || e != api.OK {
			t.Errorf("G4: Names(%s): %q, %d", x.l, l, e)
		}
	}
	p := programOf(t, sample.Town)
	for _, x := range []struct {
		l string
		e api.Errno
	}{
		{"say idle", api.ErrArg},
		{"say say", api.ErrArg},
		{"box[int] coin box[int]", api.ErrArg},
		{"box[int] box[bool]", api.ErrArg},
		{"say idle other", api.ErrInst},
		{"other idle", api.ErrInst},
		{strings.Repeat("say ", 20), api.ErrArg},
		{strings.Repeat("say ", 21), api.ErrLimit},
	} {
		if l, e := poly.Names(p, list(x.l)); len(l) > 0 || e != x.e {
			t.Errorf("G4: Names(%s): %q, %d", x.l, l, e)
		}
	}
	// What is too deep has a name, too: what an instance names is not asked.
	deep := programOf(t, "proc p[t](a: array[array[?t]]) is end")
	if l, e := poly.Names(deep, []string{"p[" + deepArg + "]"}); show(l) != "i1" || e != api.OK {
		t.Errorf("G4: %q, %d", l, e)
	}
}

// G4: 20 instances, where as many names are taken.
func TestManyNames(t *testing.T) {
	s := "proc i1[t]() is end"
	var l []string
	for i := 2; i <= 20; i++ {
		s += fmt.Sprintf(" proc i%d() is end", i)
	}
	for i := range 20 {
		l = append(l, fmt.Sprintf("i1[record[a%02d:int]]", i))
	}
	p := programOf(t, s)
	names, e := poly.Names(p, l)
	if len(names) != 20 || e != api.OK || names[0] != "i21" || names[19] != "i40" {
		t.Errorf("G4: %q, %d", names, e)
	}
	q := mono(t, p, l...)
	if e := poly.CheckMono(q); e != api.OK || !slices.Equal(namesOf(q), names) {
		t.Errorf("G5: %q, %d", namesOf(q), e)
	}
}
