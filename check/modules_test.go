package check_test

import (
	"testing"

	"argus/api"
	"argus/check"
)

// E5: the text of modules that make the program of others.
func TestModules(t *testing.T) {
	for _, x := range []struct{ src, want string }{
		{"", ""},
		{"proc q() is end proc p() is end", "proc p() is\nend\n\nproc q() is\nend\n"},
		{"proc p(x: int, y: bool) is x := 1; var z: int := x; z := 2; if y then var w: bool := y; w := y end end",
			"proc p(v0: int, v1: bool) is\n  v0 := 1;\n  var v2: int := v0;\n  v2 := 2;\n  if v1 then\n    var v3: bool := v1;\n    v3 := v1\n  end\nend\n"},
		{"iter i() yields int is for x: int in i() do x := 1; var y: int := x; yield y end end",
			"iter i() yields int is\n  for v1: int in i() do\n    v1 := 1;\n    var v0: int := v1;\n    yield v0\n  end\nend\n"},
		{"proc p(o: oneof[a:int,b:bool]) is tagcase o tag a(x: int): x := 1 tag b(y: bool): y := y end end",
			"proc p(v0: oneof[a:int,b:bool]) is\n  tagcase v0\n  tag a(v1: int):\n    v1 := 1\n  tag b(v2: bool):\n    v2 := v2\n  end\nend\n"},
		{"proc p[t](a: array[?t], r: record[f:?t]) is a[1] := a[2]; r.f := r.f; p{array[?t]}(array[array[?t]]$new(), record[f:array[?t]]$make(a)) end",
			"proc p[t](v0: array[?t], v1: record[f:?t]) is\n  array[?t]$store(v0, 1, array[?t]$fetch(v0, 2));\n  record[f:?t]$set_f(v1, record[f:?t]$get_f(v1));\n  p{array[?t]}(array[array[?t]]$new(), record[f:array[?t]]$make(v0))\nend\n"},
		{"cluster k is f rep = int proc f(x: k) returns k is return k$g(up(down(x) + 1)) end proc g(x: k) returns k is return x end end",
			"cluster k is f\n  rep = int\n  proc f(v0: k) returns k is\n    return k$g(up(int$add(down(v0), 1)))\n  end\n  proc g(v0: k) returns k is\n    return v0\n  end\nend\n"},
		{"proc p(b: bool) signals (no) is begin signal no except when no: b := not b when others: b := (b and b) or b end; while b = b do break end; return end",
			"proc p(v0: bool) signals (no) is\n  begin\n    signal no\n  except\n  when no:\n    v0 := bool$not(v0)\n  when others:\n    v0 := bool$or(bool$and(v0, v0), v0)\n  end;\n  while bool$equal(v0, v0) do\n    break\n  end;\n  return\nend\n"},
		{"proc p(n: int) returns bool is put n - (n * n); put (n / 2) mod 3; return n < 1 end",
			"proc p(v0: int) returns bool is\n  put int$sub(v0, int$mul(v0, v0));\n  put int$mod(int$div(v0, 2), 3);\n  return int$lt(v0, 1)\nend\n"},
	} {
		l, e := check.Modules(programOf(t, x.src))
		if got := source(l); got != x.want || e != api.OK {
			t.Errorf("E5: %s, %d, not %s", got, e, x.want)
		}
		askBack(t, programOf(t, x.src))
	}
}

// askBack asks whether Modules of a program make it, and have no sugar.
func askBack(t *testing.T, p api.Program) {
	t.Helper()
	l, e := check.Modules(p)
	if e != api.OK {
		t.Errorf("E5: %d\n%s", e, show(p))
		return
	}
	again, f := check.Check(l)
	if f != ok || show(again) != show(p) {
		t.Errorf("P5.3: %v, %s\nnot %s", f, show(again), show(p))
	}
	for i, m := range l {
		if i > 0 && l[i-1].Face.Name >= m.Face.Name {
			t.Errorf("E5: %s behind %s", m.Face.Name, l[i-1].Face.Name)
		}
		for _, r := range m.Routines {
			for _, n := range r.Nodes {
				switch n.Kind {
				case api.ExOp, api.ExIndex, api.ExField, api.StStore, api.StField:
					t.Errorf("P5.3: sugar: %s", showNode(n))
				}
			}
		}
	}
}

// E5: programs that are valid, but are made by no modules.
func TestNoModules(t *testing.T) {
	one, a := typed(api.ExInt, "int", 1), typed(api.ExVar, "int", 0)
	seq := func(kids ...int) api.Node { return node(api.StSeq, 0, kids...) }
	i := api.Node{Kind: api.ExCall, N: 1, Var: "i", Type: "int"}
	slots := func(p api.Program, l ...string) api.Program {
		p.Cores[1].Slots = append([]string{"int", "bool"}, l...)
		return p
	}
	for _, x := range []struct {
		what string
		p    api.Program
		e    api.Errno
	}{
		{"all set", slots(bodied(one, node(api.StSet, 2, 0), a, node(api.StSet, 2, 2), seq(1, 3)), "int"), api.OK},
		{"no slots but parameters", slots(bodied(one, node(api.StSet, 0, 0), seq(1))), api.OK},
		{"a loop", slots(bodied(i, one, node(api.StSet, 2, 1), seq(2), node(api.StFor, 2, 0, 3), seq(4)), "int"), api.OK},
		{"a slot that is not set", slots(bodied(seq()), "int"), api.ErrArg},
		{"set in two parts", slots(bodied(typed(api.ExBool, "bool", 1), one, node(api.StSet, 2, 1), seq(2), one, node(api.StSet, 2, 4), seq(5), node(api.StIf, 0, 0, 3, 6), seq(7)), "int"), api.ErrArg},
		{"in another order", slots(bodied(one, node(api.StSet, 3, 0), one, node(api.StSet, 2, 2), seq(1, 3)), "int", "int"), api.ErrArg},
		{"two loops with one slot", slots(bodied(i, seq(), node(api.StFor, 2, 0, 1), i, seq(), node(api.StFor, 2, 3, 4), seq(2, 5)), "int"), api.ErrArg},
		{"a loop into a parameter", slots(bodied(i, seq(), node(api.StFor, 0, 0, 1), seq(2))), api.ErrArg},
		{"the slot of a loop behind it", slots(bodied(i, seq(), node(api.StFor, 2, 0, 1), one, node(api.StSet, 2, 3), seq(2, 4)), "int"), api.ErrArg},
		{"no name of an operation", slots(bodied(one, call("oneof[a:int]", "make_a", "oneof[a:int]", 0), call("oneof[a:int]", "is_a", "bool", 1), node(api.StDo, 0, 2), seq(3))), api.ErrArg},
	} {
		askValid(t, x.what, x.p)
		if l, e := check.Modules(x.p); e != x.e || e != api.OK && len(l) > 0 {
			t.Errorf("E5: %s: %d, not %d, %s", x.what, e, x.e, source(l))
		}
		if x.e == api.OK {
			askBack(t, x.p)
		}
	}
}
