package lower_test

import (
	"math"
	"slices"
	"strings"
	"testing"

	"argus/api"
	"argus/lower"
)

const others = `
cluster flag is make, both rep = bool
  proc make(b: bool) returns flag is return up(b) end
  iter both(f: flag, c: cell) yields cell signals (low) is yield hidden(f, c); yield flag$hidden(f, c) end
  proc hidden(f: flag, c: cell) returns cell is return c end
end
cluster link is make rep = flag proc make(f: flag) returns link is return up(f) end end
cluster some is make rep = oneof[a:flag,bb:record[x:int,y:null],c1:some]
  proc make(n: oneof[a:flag,bb:record[x:int,y:null],c1:some]) returns some is return up(n) end
end
cluster none is make rep = null proc make() returns none is return up(nil) end end
proc hidden(f: flag, c: cell) returns cell is return c end
proc six(a: int, b: bool, c: null, d: cell, e: link, f: some) returns array[int] is return array[int]$new() end
`

func askProgram(t *testing.T) api.Program { return programOf(t, cell, upto, useOfBoth, others) }

func TestKinds(t *testing.T) {
	p := askProgram(t)
	const w, r = api.RegWord, api.RegRef
	for _, x := range []struct {
		name   string
		args   []uint8
		result uint8
	}{
		{"six", []uint8{w, w, w, r, w, r}, r},
		{"flag$both", []uint8{w, r}, r},
		{"flag$make", []uint8{w}, w},
		{"flag$hidden", []uint8{w, r}, r},
		{"link$make", []uint8{w}, w},
		{"some$make", []uint8{r}, r},
		{"none$make", nil, w},
		{"cell$add", []uint8{r, w}, 0},
		{"main", []uint8{w}, w},
	} {
		args, result, e := lower.Kinds(p, x.name)
		if !slices.Equal(args, x.args) || result != x.result || e != api.OK {
			t.Errorf("I3: Kinds(%s): %v, %d, %d", x.name, args, result, e)
		}
		f := lowered(t, p, x.name)
		if !slices.Equal(f.Regs[:f.Args], x.args) || f.Result != x.result {
			t.Errorf("I1: Lower(%s): %v, %d", x.name, f.Regs[:f.Args], f.Result)
		}
	}
	for _, name := range []string{"", "$", "flag", "both", "flag$", "$hidden", "flag$make$", "int$add", "none", "flag$none", "MAIN", "main "} {
		if args, result, e := lower.Kinds(p, name); len(args) > 0 || result != 0 || e != api.ErrNone {
			t.Errorf("I3: Kinds(%q): %v, %d, %d", name, args, result, e)
		}
		if f, e := lower.Lower(p, name); !isEmpty(f) || e != api.ErrNone {
			t.Errorf("I1: Lower(%q): %v, %d", name, f, e)
		}
		if l, e := lower.Calls(p, name); len(l) > 0 || e != api.ErrNone {
			t.Errorf("I4: Calls(%q): %v, %d", name, l, e)
		}
	}
}

func isEmpty(f api.Flow) bool {
	return f.Name == "" && !f.Iter && f.Args == 0 && f.Result == 0 && len(f.Regs)+len(f.Slots)+len(f.Signals)+len(f.Blocks) == 0
}

func TestPart(t *testing.T) {
	p := askProgram(t)
	for _, x := range []struct {
		t, op string
		at    int
		e     api.Errno
	}{
		{"some", "is_a", 0, api.OK},
		{"some", "is_bb", 1, api.OK},
		{"some", "make_c1", 2, api.OK},
		{"some", "get_a", 0, api.ErrPart},
		{"some", "set_a", 0, api.ErrPart},
		{"some", "is_x", 0, api.ErrPart},
		{"some", "is_b", 0, api.ErrPart},
		{"some", "is_", 0, api.ErrPart},
		{"some", "is", 0, api.ErrPart},
		{"some", "make", 0, api.ErrPart},
		{"some", "equal", 0, api.ErrPart},
		{"some", "equal_a", 0, api.ErrPart},
		{"some", "", 0, api.ErrPart},
		{"some", "_a", 0, api.ErrPart},
		{"some", "a", 0, api.ErrPart},
		{"some", "is_a_", 0, api.ErrPart},
		{"some", "is__a", 0, api.ErrPart},
		{"some", "IS_a", 0, api.ErrPart},
		{"record[x:int,y:null]", "get_y", 1, api.OK},
		{"record[x:int,y:null]", "set_x", 0, api.OK},
		{"record[x:int,y:null]", "is_x", 0, api.ErrPart},
		{"record[x:int,y:null]", "make", 0, api.ErrPart},
		{"record[x:int,y:null]", "get", 0, api.ErrPart},
		{"record[x:int,y:null]", "get_", 0, api.ErrPart},
		{"record[x:int,y:null]", "equal", 0, api.ErrPart},
		{"record[a:int,b:int,c:int,d:int,e:int,f:int]", "set_f", 5, api.OK},
		{"record[a:record[x:int],x:int]", "get_x", 1, api.OK},
		{"array[int]", "get_a", 0, api.ErrPart},
		{"int", "get_a", 0, api.ErrPart},
		{"flag", "is_a", 0, api.ErrPart},
		{"none", "is_a", 0, api.ErrPart},
		{"other", "get_n", 0, api.ErrArg},
		{"main", "get_n", 0, api.ErrArg},
		{"?t", "get_n", 0, api.ErrArg},
		{"record[x:?t]", "get_x", 0, api.ErrArg},
		{"cell[int]", "get_n", 0, api.ErrArg},
		{"", "get_n", 0, api.ErrArg},
		{"record[x:int", "get_x", 0, api.ErrArg},
	} {
		if at, e := lower.Part(p, x.t, x.op); at != x.at || e != x.e {
			t.Errorf("I3: Part(%s, %s): %d, %d, not %d, %d", x.t, x.op, at, e, x.at, x.e)
		}
		if at, e := plainPart(p, x.t, x.op); at != x.at || e != x.e {
			t.Errorf("the second way: Part(%s, %s): %d, %d", x.t, x.op, at, e)
		}
	}
}

func TestValue(t *testing.T) {
	p := askProgram(t)
	values := []api.Value{
		{Kind: api.ValInt, N: 5}, {Kind: api.ValInt, N: -1000000000}, {Kind: api.ValInt, N: 1000000000}, {Kind: api.ValInt},
		{Kind: api.ValInt, N: 1000000001}, {Kind: api.ValInt, N: -1000000001}, {Kind: api.ValInt, N: math.MinInt}, {Kind: api.ValInt, N: math.MaxInt},
		{Kind: api.ValBool}, {Kind: api.ValBool, N: 1}, {Kind: api.ValBool, N: 2}, {Kind: api.ValBool, N: -1},
		{Kind: api.ValNil}, {Kind: api.ValNil, N: 1},
		{Kind: api.ValRef}, {Kind: api.ValRef, N: 1}, {}, {N: 1}, {Kind: 5}, {Kind: 255, N: 1},
	}
	right := map[string][]int{"int": {0, 1, 2, 3}, "bool": {8, 9}, "flag": {8, 9}, "link": {8, 9}, "null": {12}, "none": {12}}
	for _, of := range []string{"int", "bool", "null", "flag", "link", "none", "cell", "some", "array[int]", "record[x:int]", "oneof[x:int]", "main", "?t", "", "other", "cell[int]"} {
		for i, v := range values {
			n, e := lower.Value(p, of, v)
			if isRight := slices.Contains(right[of], i); isRight && (n != v.N || e != api.OK) || !isRight && (n != 0 || e != api.ErrArg) {
				t.Errorf("I4: Value(%s, %v): %d, %d", of, v, n, e)
			}
			if m, wrong := plainValue(p, of, v); m != n || wrong != e {
				t.Errorf("the second way: Value(%s, %v): %d, %d", of, v, m, wrong)
			}
		}
	}
}

func TestCalls(t *testing.T) {
	p := askProgram(t)
	for name, want := range map[string]string{
		"main":        "cell$add cell$get cell$make upto",
		"flag$both":   "flag$hidden hidden",
		"six":         "",
		"flag$hidden": "",
	} {
		if l, e := lower.Calls(p, name); strings.Join(l, " ") != want || e != api.OK {
			t.Errorf("I4: Calls(%s): %q, %d", name, l, e)
		}
	}
	// What is never done is called, too; the flow calls only some of it.
	p = programOf(t, "proc main() is return; main(); other(); other() end proc other() is other() end")
	if l, e := lower.Calls(p, "main"); strings.Join(l, " ") != "main other" || e != api.OK {
		t.Errorf("I4: Calls: %q, %d", l, e)
	}
	if l := called(lowered(t, p, "main")); len(l) > 0 {
		t.Errorf("P9.4: %q", l)
	}
}

// The errors of the program come first.
func TestProgramsThatAreNone(t *testing.T) {
	open := programOf(t, "proc id[t](x: ?t) returns ?t is return x end proc main() is end")
	closed := programOf(t, "proc main() is end")
	bent := copied(closed)
	bent.Cores[0].Nodes[0].Kind = api.StPut
	for _, x := range []struct {
		p api.Program
		e api.Errno
	}{{open, api.ErrParam}, {bent, api.ErrProgram}, {api.Program{Reps: []string{""}}, api.ErrProgram}} {
		f, e := lower.Lower(x.p, "other")
		l, e1 := lower.All(x.p)
		is, e2 := lower.Like(x.p, api.Flow{})
		at, e3 := lower.CheckFlows(x.p, []api.Flow{{}})
		args, result, e4 := lower.Kinds(x.p, "main")
		part, e5 := lower.Part(x.p, "?t", "get_x")
		n, e6 := lower.Value(x.p, "int", api.Value{Kind: api.ValInt, N: 1})
		names, e7 := lower.Calls(x.p, "main")
		for i, got := range []api.Errno{e, e1, e2, e3, e4, e5, e6, e7} {
			if got != x.e {
				t.Errorf("function %d: %d, not %d", i, got, x.e)
			}
		}
		if !isEmpty(f) || len(l)+at+len(args)+int(result)+part+n+len(names) != 0 || is {
			t.Errorf("R2: %v, %v, %v, %d, %v, %d, %d, %d, %v", f, l, is, at, args, result, part, n, names)
		}
	}
	none := api.Program{}
	if l, e := lower.All(none); len(l) > 0 || e != api.OK {
		t.Errorf("I1: All of no modules: %v, %d", l, e)
	}
	if at, e := lower.CheckFlows(none, nil); at != 0 || e != api.OK {
		t.Errorf("I2: CheckFlows of no modules: %d, %d", at, e)
	}
	if _, e := lower.Lower(none, "main"); e != api.ErrNone {
		t.Errorf("I1: Lower of no modules: %d", e)
	}
}
