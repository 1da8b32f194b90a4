package tree_test

import (
	"math/rand/v2"
	"slices"
	"strings"
	"testing"

	"argus/api"
	"argus/token"
	"argus/tree"
)

const firstExample = "proc p(a:int) returns int is return (a+1) end"

func TestParseOfExamples(t *testing.T) {
	sig := api.Sig{Args: []string{"int"}, Result: "int"}
	nodes := []api.Node{named(api.ExVar, "a"), {Kind: api.ExInt, N: 1}, named(api.ExOp, "+", 0, 1), node(api.StReturn, 2), node(api.StSeq, 3)}
	want := api.Module{
		Face:     api.Face{Name: "p", Kind: api.ModProc, Ops: []api.Op{{Name: "p", Sig: sig}}},
		Routines: []api.Routine{{Name: "p", Sig: sig, Params: []string{"a"}, Nodes: nodes}},
	}
	if l := mustParse(t, firstExample); !equalModules(l, []api.Module{want}) {
		t.Errorf("%v", l)
	}
	for src, want := range map[string]api.Fault{
		"proc p() is x := end":                  {Err: api.ErrParse, At: 1},
		"proc p() is":                           {Err: api.ErrParse, At: 1},
		"":                                      ok,
		"proc p() is x := a[int]; put 1 end":    {Err: api.ErrParse, At: 1},
		"proc p() is x := a[int]\n; put 1\nend": {Err: api.ErrParse, At: 2},
		"proc p() signals(b, a) is end":         badTree,
	} {
		if l, f := tree.Parse(src); f != want || len(l) > 0 {
			t.Errorf("%q: %v, %v", src, l, f)
		}
	}
}

func TestNumbersOfErrors(t *testing.T) {
	for src, want := range map[string]api.Errno{strings.Repeat(" ", 20001): 2, "!": 10, "00": 11, "thirteenletter": 12, "end": 20, "proc p() signals(a, a) is end": 21} {
		if _, f := tree.Parse(src); f.Err != want {
			t.Errorf("%.20q: %d", src, f.Err)
		}
	}
}

// each statement of the first text has just the nodes of the row beside it, and a StSeq behind them.
func TestParseOfStatements(t *testing.T) {
	a, b, c, seq := named(api.ExVar, "a"), named(api.ExVar, "b"), named(api.ExVar, "c"), node(api.StSeq)
	for src, want := range map[string][]api.Node{
		"":                            {seq},
		"var a: set[?t] := b":         {b, typed(api.StVar, "a", "set[?t]", 0), node(api.StSeq, 1)},
		"a := b":                      {b, named(api.StSet, "a", 0), node(api.StSeq, 1)},
		"a[b] := c":                   {a, b, c, node(api.StStore, 0, 1, 2), node(api.StSeq, 3)},
		"a[b][c] := a":                {a, b, node(api.ExIndex, 0, 1), c, a, node(api.StStore, 2, 3, 4), node(api.StSeq, 5)},
		"a.b := c":                    {a, c, named(api.StField, "b", 0, 1), node(api.StSeq, 2)},
		"a.b.c := c":                  {a, named(api.ExField, "b", 0), c, named(api.StField, "c", 1, 2), node(api.StSeq, 3)},
		"1[b] := c":                   {{Kind: api.ExInt, N: 1}, b, c, node(api.StStore, 0, 1, 2), node(api.StSeq, 3)},
		"(not a).b := c":              {a, named(api.ExOp, "not", 0), c, named(api.StField, "b", 1, 2), node(api.StSeq, 3)},
		"up(a)[b] := c":               {a, node(api.ExUp, 0), b, c, node(api.StStore, 1, 2, 3), node(api.StSeq, 4)},
		"f()":                         {named(api.ExCall, "f"), node(api.StDo, 0), node(api.StSeq, 1)},
		"f{int}(a, b)":                {a, b, typed(api.ExCall, "f", "int", 0, 1), node(api.StDo, 2), node(api.StSeq, 3)},
		"a[b]$c(a)":                   {a, {Kind: api.ExCall, Name: "c", Var: "a[b]", Kids: []int{0}}, node(api.StDo, 1), node(api.StSeq, 2)},
		"int$mod(a, b)":               {a, b, {Kind: api.ExCall, Name: "mod", Var: "int", Kids: []int{0, 1}}, node(api.StDo, 2), node(api.StSeq, 3)},
		"f(a)[b] := c":                {a, named(api.ExCall, "f", 0), b, c, node(api.StStore, 1, 2, 3), node(api.StSeq, 4)},
		"put a":                       {a, node(api.StPut, 0), node(api.StSeq, 1)},
		"if a then end":               {a, seq, node(api.StIf, 0, 1), node(api.StSeq, 2)},
		"if a then else end":          {a, seq, seq, node(api.StIf, 0, 1, 2), node(api.StSeq, 3)},
		"if a then elseif b then end": {a, seq, b, seq, node(api.StIf, 2, 3), node(api.StSeq, 4), node(api.StIf, 0, 1, 5), node(api.StSeq, 6)},
		"if a then elseif b then else end": {a, seq, b, seq, seq, node(api.StIf, 2, 3, 4), node(api.StSeq, 5), node(api.StIf, 0, 1, 6),
			node(api.StSeq, 7)},
		"while a do break end":          {a, node(api.StBreak), node(api.StSeq, 1), node(api.StWhile, 0, 2), node(api.StSeq, 3)},
		"for a: int in f() do end":      {named(api.ExCall, "f"), seq, typed(api.StFor, "a", "int", 0, 1), node(api.StSeq, 2)},
		"for a: b in c[int]$f() do end": {{Kind: api.ExCall, Name: "f", Var: "c[int]"}, seq, typed(api.StFor, "a", "b", 0, 1), node(api.StSeq, 2)},
		"return":                        {node(api.StReturn), node(api.StSeq, 0)},
		"return not a":                  {a, named(api.ExOp, "not", 0), node(api.StReturn, 1), node(api.StSeq, 2)},
		"yield a; signal b":             {a, node(api.StYield, 0), named(api.StSignal, "b"), node(api.StSeq, 1, 2)},
		"begin except when others: end": {seq, seq, named(api.StWhen, "", 1), node(api.StExcept, 0, 2), node(api.StSeq, 3)},
		"begin break except when a: when b: end": {node(api.StBreak), node(api.StSeq, 0), seq, named(api.StWhen, "a", 2), seq, named(api.StWhen, "b", 4),
			node(api.StExcept, 1, 3, 5), node(api.StSeq, 6)},
		"begin except when a: when others: break end": {seq, seq, named(api.StWhen, "a", 1), node(api.StBreak), node(api.StSeq, 3), named(api.StWhen, "", 4),
			node(api.StExcept, 0, 2, 5), node(api.StSeq, 6)},
		"tagcase a tag b(c: null): end": {a, seq, {Kind: api.StArm, Name: "b", Var: "c", Type: "null", Kids: []int{1}}, node(api.StCase, 0, 2), node(api.StSeq, 3)},
		"tagcase a tag b(c: int): break tag c(t: ?t): end": {a, node(api.StBreak), node(api.StSeq, 1), {Kind: api.StArm, Name: "b", Var: "c", Type: "int", Kids: []int{2}},
			seq, {Kind: api.StArm, Name: "c", Var: "t", Type: "?t", Kids: []int{4}}, node(api.StCase, 0, 3, 5), node(api.StSeq, 6)},
	} {
		if got := body(t, src); !equalNodes(got, want) {
			t.Errorf("%q: %v", src, got)
		}
	}
}

func TestParseOfModules(t *testing.T) {
	l := mustParse(t, `
		cluster box[t] is get, all where t has equal: proc(?t, ?t) returns bool, lt: iter() yields int signals(a, b), z: proc()
			rep = record [ v : ? t ]
			proc get(b: box[?t], n: int) returns ?t signals(none) is end
			iter all(b: box[?t]) yields ?t is end
			proc help() is end
		end
		iter each[t](t: t) yields array[t] signals(x) is end
		proc p() where t has a: proc(null) is end`)
	empty := []api.Node{node(api.StSeq)}
	get := api.Sig{Args: []string{"box[?t]", "int"}, Result: "?t", Signals: []string{"none"}}
	all := api.Sig{Iter: true, Args: []string{"box[?t]"}, Result: "?t"}
	each := api.Sig{Iter: true, Args: []string{"t"}, Result: "array[t]", Signals: []string{"x"}}
	want := []api.Module{
		{
			Face: api.Face{Name: "box", Kind: api.ModCluster, Param: true, Ops: []api.Op{{Name: "get", Sig: get}, {Name: "all", Sig: all}}, Needs: []api.Need{
				{Op: "equal", Sig: api.Sig{Args: []string{"?t", "?t"}, Result: "bool"}},
				{Op: "lt", Sig: api.Sig{Iter: true, Result: "int", Signals: []string{"a", "b"}}},
				{Op: "z"},
			}},
			Rep: "record[v:?t]",
			Routines: []api.Routine{
				{Name: "get", Sig: get, Params: []string{"b", "n"}, Nodes: empty},
				{Name: "all", Sig: all, Params: []string{"b"}, Nodes: empty},
				{Name: "help", Nodes: empty},
			},
		},
		{
			Face:     api.Face{Name: "each", Kind: api.ModIter, Param: true, Ops: []api.Op{{Name: "each", Sig: each}}},
			Routines: []api.Routine{{Name: "each", Sig: each, Params: []string{"t"}, Nodes: empty}},
		},
		{
			Face:     api.Face{Name: "p", Kind: api.ModProc, Needs: []api.Need{{Op: "a", Sig: api.Sig{Args: []string{"null"}}}}, Ops: []api.Op{{Name: "p"}}},
			Routines: []api.Routine{{Name: "p", Nodes: empty}},
		},
	}
	if !equalModules(l, want) {
		t.Errorf("%v", l)
	}
}

// What stands between brackets may be an expression or a type, until a later token tells.
func TestExprsAndTypes(t *testing.T) {
	for src, want := range map[string]api.Fault{
		"a[b]": ok, "a[b]$f()": ok, "a[b[c]]": ok, "a[b[c]]$f()": ok, "a[b[int]]$f()": ok, "a[b[c]$f()]": ok, "a[int$f()]": ok, "a[?t]$f()": ok, "a[record[b:int]$make(1)]": ok,
		"a[oneof[b:c]]$f()": ok, "a[array[b]]$f()[1].c": ok, "a[b][c]": ok, "a[b].c": ok, "a[not b]": ok, "a[b+c]": ok, "a[b[c]+c]": ok, "a[b]+c[int]$f()": ok, "a[(b)]": ok,
		"a[b[c[d[e]]]]": ok, "a[b[c[d[e]]]]$f(a[b])": ok, "f(x)[b]": ok, "int$f()[b]": ok, "a.b[c]": ok, "a$f()": ok, "?t$f()": ok, "a$f_g()": ok, "a$not()": ok, "a$t_t()": ok,
		"a[int]": {Err: api.ErrParse, At: 1}, "int": {Err: api.ErrParse, At: 1}, "a[int]\n+ 1": {Err: api.ErrParse, At: 2}, "a[int]\n.b": {Err: api.ErrParse, At: 2}, "a[int]\n[b]": {Err: api.ErrParse, At: 2},
		"a[b[int]\n.c]": {Err: api.ErrParse, At: 2}, "a[b[int]\n+ c]": {Err: api.ErrParse, At: 2}, "a[b[int]\n[1]]": {Err: api.ErrParse, At: 2}, "a[b[int]]\n.c": {Err: api.ErrParse, At: 2},
		"a[b.c]\n$f()": {Err: api.ErrParse, At: 2}, "a[b[c].d]\n$f()": {Err: api.ErrParse, At: 2}, "a[b][c]\n$f()": {Err: api.ErrParse, At: 2}, "a[1]\n$f()": {Err: api.ErrParse, At: 2},
		"a[(b)]\n$f()": {Err: api.ErrParse, At: 2}, "(a)\n$f()": {Err: api.ErrParse, At: 2}, "a[not b]\n$f()": {Err: api.ErrParse, At: 2}, "a[b+c]\n$f()": {Err: api.ErrParse, At: 2},
		"f(x)[b]\n$f()": {Err: api.ErrParse, At: 2}, "f(x)[int\n]": {Err: api.ErrParse, At: 2}, "a.b[int\n]": {Err: api.ErrParse, At: 2}, "a[b][int\n]": {Err: api.ErrParse, At: 2}, "(a)[int\n]": {Err: api.ErrParse, At: 2},
		"a[int\n.b]": {Err: api.ErrParse, At: 2}, "a[b +\nint]": {Err: api.ErrParse, At: 2}, "a[b + int\n]": {Err: api.ErrParse, At: 2}, "a[(int\n)]": {Err: api.ErrParse, At: 2}, "a[not int\n]": {Err: api.ErrParse, At: 2},
		"a$f()\n$g()": {Err: api.ErrParse, At: 2}, "a.b\n$f()": {Err: api.ErrParse, At: 2}, "a[b\n{}]": {Err: api.ErrParse, At: 2}, "a[?\nu]": {Err: api.ErrParse, At: 2},
		"a[array\n]": {Err: api.ErrParse, At: 2}, "a[record[b\n]]": {Err: api.ErrParse, At: 2}, "a[record[\n]]": {Err: api.ErrParse, At: 2}, "a[]": {Err: api.ErrParse, At: 1}, "a$\nint()": {Err: api.ErrParse, At: 2},
		"a$mod\n_b()": {Err: api.ErrParse, At: 2}, "a$f_\nmod()": {Err: api.ErrParse, At: 2}, "a$f_g\n_h()": {Err: api.ErrParse, At: 2}, "a$f\n": {Err: api.ErrParse, At: 1}, "a + b\n+ c": {Err: api.ErrParse, At: 2},
		"not a\n+ b": {Err: api.ErrParse, At: 2}, "not\nnot a": {Err: api.ErrParse, At: 2}, "a + \nnot b": {Err: api.ErrParse, At: 2}, "\n- 1": {Err: api.ErrParse, At: 2}, "a\nb": {Err: api.ErrParse, At: 2}, "a\n\n": ok,
		"": {Err: api.ErrParse, At: 1}, "% nothing\n\n": {Err: api.ErrParse, At: 1}, "\n\na +\n\n": {Err: api.ErrParse, At: 3}, "\n)": {Err: api.ErrParse, At: 2}, "\nproc": {Err: api.ErrParse, At: 2},
		"a\n!": {Err: api.ErrChar, At: 2}, "a\n007": {Err: api.ErrNumber, At: 2}, "a\nthirteenletter": {Err: api.ErrLong, At: 2}, strings.Repeat(" ", 20000) + "a": {Err: api.ErrLimit},
		"f(1,2,3,4,5,6)": ok, "\nf(1,2,3,4,5,6,7)": badTree, "\nint$f(1,2,3,4,5,6,7)": badTree,
	} {
		if l, f := tree.ParseExpr(src); f != want || f != ok && len(l) > 0 {
			t.Errorf("%.40q: %v, %v", src, l, f)
		}
	}
	long := "a" + strings.Repeat("[abc", 24) + strings.Repeat("]", 24)
	for src, want := range map[string]api.Fault{
		long + "$f()": badTree, "f{" + long + "}()": badTree, "set[array[array[array[array[array[array[array[array[array[array[array[array[array[int]]]]]]]]]]]]]]$f()": ok,
		strings.Repeat("not (", 399) + "a" + strings.Repeat(")", 399): ok, "\n" + strings.Repeat("not (", 400) + "a" + strings.Repeat(")", 400): badTree,
	} {
		if l, f := tree.ParseExpr(src); f != want || f != ok && len(l) > 0 {
			t.Errorf("%.40q: %v, %v", src, l, f)
		}
	}
}

// In each of these texts the first line can go on, but not with the first token of the second one.
func TestFaultsOfStatements(t *testing.T) {
	for _, src := range []string{
		"a\n;", "a[1]\n;", "a.b\n;", "1\n:= 2", "(a)\n:= 2", "(a[1])\n:= 2", "(a.b)\n:= 2", "f()\n:= 2", "(f())\n;", "up(a)\n;", "nil\n;", "a\n+ 1", "\nnot a", "a := b\n:= c", "a[b]\n()", "a.b\n()",
		"a[int]\n:= 1", "a[int]\n;", "a.\nint := 1", "a.b.c\n;", "f();\nend", "f()\nf()", "\n;", "f();\n;", "\nelse", "\nelseif a then", "\nthen", "\nwhen a:", "\nothers", "\nexcept", "\nproc", "\ncluster", "\ntag a(b: int):",
		"var\nint := 1", "var a\n:= 1", "var a: int\n= 1", "var a: \n1", "var a: set[\n1]", "var a: int :=\n;", "var a: int\n[1]", "var a: a[b]\n[c]", "put\n;", "return\n)", "return int\n;", "return a\nb",
		"yield\n;", "signal\n;", "signal\nif", "signal a\n.b", "break\n1", "if a\ndo", "if\nthen", "if a then else\nelse end", "if a then else\nelseif b then end", "if a then elseif b\nelse end", "if a then\nwhen",
		"while a\nthen", "while a do\nelse", "for\nin", "for a\nin", "for a: int\n:= 1", "for a: int in\n(f())", "for a: int in b\ndo", "for a: int in f()\n.c do", "for a: int in f()\n+ 1 do", "for a: int in\n1", "for a: int in b[\n1]$f() do",
		"for a: int in b[c]\n[d]$f() do", "for a: int in int\ndo", "for a: int in f() do\nelse", "begin\nwhen a: end", "begin\nend", "begin except\nend", "begin except\nothers: end", "begin except when\nint: end", "begin except when a\nthen",
		"begin except when a:\nothers: end", "begin except when a: f();\nwhen b: end", "begin except when a:\nexcept", "begin except when others:\nwhen a: end", "begin except when others:\nwhen others: end", "tagcase a\nend",
		"tagcase\ntag a(b: int): end", "tagcase a tag\n(b: int): end", "tagcase a tag\nint(b: int): end", "tagcase a tag a\n: end", "tagcase a tag a(b\n): end", "tagcase a tag a(b: int)\nend", "tagcase a tag a(b: int):\nwhen",
		"tagcase a tag a(b: int): f();\ntag c(d: int): end",
	} {
		for _, behind := range []string{" end", "\nput 1 end", "\nx := 1 end end"} {
			whole := "proc p() is " + src + behind
			if l, f := tree.Parse(whole); f != (api.Fault{Err: api.ErrParse, At: 2}) || len(l) > 0 {
				t.Errorf("%q: %v, %v", whole, l, f)
			}
		}
	}
}

func TestFaultsOfModules(t *testing.T) {
	for _, src := range []string{
		"\nx", "\nend", "\n1", "\n;", "\nvar a: int := 1", "\nrep", "proc\n(", "proc\nif() is end", "proc p\nis end", "proc p[\nx]() is end", "proc p[\n]() is end", "proc p[t\n() is end", "proc p[\n?t]() is end", "proc p[t]\n[t]() is end",
		"proc p(\n1) is end", "proc p(a\n) is end", "proc p(a:\n) is end", "proc p(a: int\n:= 1)", "proc p(a: int,\n) is end", "proc p(a\n, b: int)", "proc p()\nyields int is end", "iter p()\nis end", "iter p()\nreturns int is end",
		"iter p()\nsignals(a) yields int is end", "proc p() returns\nis end", "proc p() returns int\nreturns int is end", "proc p() signals\nis end", "proc p() signals(\n) is end", "proc p() signals(a,\n) is end",
		"proc p() signals(a)\nreturns int is end", "proc p() signals(a\nb) is end", "proc p() signals(a)\nsignals(b) is end", "proc p()\nend", "proc p()\nrep", "proc p() is\nis end", "proc p() is end\nend", "proc p() is end\n;",
		"proc p() is\nproc q() is end end", "proc p() where\nu has a: proc() is end", "proc p() where\n?t has a: proc() is end", "proc p() where t\na: proc() is end", "proc p() where t has\nis end", "proc p() where t has a\nproc() is end",
		"proc p() where t has\nmod: proc() is end", "proc p() where t has a\n_b: proc() is end", "proc p() where t has a:\n() is end", "proc p() where t has a: proc\n[t]() is end", "proc p() where t has a: proc(b\n: int) is end",
		"proc p() where t has a: proc()\nyields int is end", "proc p() where t has a: iter()\nis end", "proc p() where t has a: iter()\nreturns int is end", "proc p() where t has a: iter()\n, b: proc() is end", "proc p() where t has a: proc(),\nis end",
		"proc p() where t has a: proc()\nwhere t has b: proc() is end", "cluster\nis", "cluster a\nf", "cluster a\n() is f rep = int proc f() is end end", "cluster a is\nrep = int", "cluster a is\nmod rep = int", "cluster a is f,\nrep = int",
		"cluster a is f\n_g rep = int", "cluster a is f\ng rep = int", "cluster a is f\nproc f() is end end", "cluster a is f where t has g: proc()\nproc", "cluster a is f rep\nint", "cluster a is f rep\n:= int", "cluster a is f rep =\nproc",
		"cluster a is f rep = int\nend", "cluster a is f rep = int\nis", "cluster a is f rep = int\ncluster", "cluster a is f rep = int proc f() is end\n;", "cluster a is f rep = int proc f() is end\nput 1", "cluster a is f rep = int proc f() is end\ncluster",
		"cluster a is f rep = int proc f\n[t]() is end end", "cluster a is f rep = int proc f()\nwhere t has a: proc() is end end", "cluster a is f rep = int iter f()\nis end end", "cluster a is f rep = int proc f()\nyields int is end end",
	} {
		if l, f := tree.Parse(src); f != (api.Fault{Err: api.ErrParse, At: 2}) || len(l) > 0 {
			t.Errorf("%q: %v, %v", src, l, f)
		}
	}
	for src, want := range map[string]int{"proc": 1, "\n\nproc\n\n% more\n": 3, "proc p() is\nput 1\n\n": 2, "cluster a is f rep = int proc f() is end\n\n\n": 1, "proc p() is\nbegin x :=\n%": 2} {
		if _, f := tree.Parse(src); f != (api.Fault{Err: api.ErrParse, At: want}) {
			t.Errorf("%q: %v", src, f)
		}
	}
}

func TestFaultsOfTexts(t *testing.T) {
	right := "proc p() is end\n"
	for src, want := range map[string]api.Fault{
		right + "!": {Err: api.ErrChar, At: 2}, "x\n007": {Err: api.ErrNumber, At: 2}, "end\nthirteenletter": {Err: api.ErrLong, At: 2}, strings.Repeat(" ", 20001): {Err: api.ErrLimit}, right + strings.Repeat("!", 20000): {Err: api.ErrLimit},
		strings.Repeat(right, 20): ok, strings.Repeat(right, 21): {Err: api.ErrLimit}, strings.Repeat(right, 25) + "x": {Err: api.ErrParse, At: 26}, strings.Repeat(right, 20) + "proc p() signals(a, a) is end": {Err: api.ErrLimit},
		right + "\nproc\np() signals(a, a) is end proc q() signals(a, a)\nis end": {Err: api.ErrTree, At: 3}, right + "proc p() signals(a, a) is end\nx": {Err: api.ErrParse, At: 3},
		right + right + "proc p() signals(a, a) is end proc q() signals(a, a) is end\n" + right: {Err: api.ErrTree, At: 3}, "": ok, "\n\n% none\n": ok,
	} {
		if l, f := tree.Parse(src); f != want || f != ok && len(l) > 0 {
			t.Errorf("%.40q: %v, %v", src, l, f)
		}
	}
	if l := mustParse(t, strings.Repeat(right, 20)); len(l) != 20 {
		t.Errorf("%d modules", len(l))
	}
}

// Texts that the grammar has, and whose modules are not well-formed.
func TestParseOfBadModules(t *testing.T) {
	long := "int" + strings.Repeat("]", 14)
	long = strings.Repeat("array[", 14) + long
	proc := func(name string) string { return " proc " + name + "() is end" }
	names := strings.Fields("a b c d e f g h i j k l m n o p q r s u v")
	routines := ""
	for _, name := range names {
		routines += proc(name)
	}
	most := strings.TrimSuffix(routines, proc("v"))
	for src, want := range map[string]bool{
		"proc p(a: int, b: int, c: int, d: int, e: int, f: int) is end":                                          true,
		"proc p(a: int, b: int, c: int, d: int, e: int, f: int, g: int) is end":                                  false,
		"proc p(a: int, a: int) is end":                                                                          true,
		"proc p() signals(a, b, c, d, e, f) is end":                                                              true,
		"proc p() signals(a, b, c, d, e, f, g) is end":                                                           false,
		"proc p() signals(a, a) is end":                                                                          false,
		"proc p() where t has a: proc(), b: proc(), c: proc(), d: proc() is end":                                 true,
		"proc p() where t has a: proc(), b: proc(), c: proc(), d: proc(), e: proc() is end":                      false,
		"proc p() where t has b: proc(), a: proc() is end":                                                       false,
		"proc p() where t has a: proc(), a: proc() is end":                                                       false,
		"proc p() where t has a: proc(int, int, int, int, int, int, int) is end":                                 false,
		"proc p() where t has a: proc() signals(b, a) is end":                                                    false,
		"proc p() where t has a: proc(" + long + ") is end":                                                      false,
		"proc p() where t has a: proc() returns " + long + " is end":                                             false,
		"proc p(a: " + long + ") is end":                                                                         false,
		"proc p(a: " + long[6:len(long)-1] + ") is end":                                                          true,
		"proc p() returns " + long + " is end":                                                                   false,
		"proc p() is var a: " + long + " := 1 end":                                                               false,
		"proc p() is for a: " + long + " in f() do end end":                                                      false,
		"proc p() is tagcase a tag b(c: " + long + "): end end":                                                  false,
		"proc p() is f{" + long + "}() end":                                                                      false,
		"proc p() is " + long + "$f() end":                                                                       false,
		"proc p() is f(1, 2, 3, 4, 5, 6, 7) end":                                                                 false,
		"proc p() is x := f(f(1, 2, 3, 4, 5, 6), f(1, 2, 3, 4, 5, 6, 7)) end":                                    false,
		"proc p() is " + strings.Repeat("break;", 398) + "break end":                                             true,
		"proc p() is " + strings.Repeat("break;", 399) + "break end":                                             false,
		"cluster a is f rep = int" + proc("f") + proc("g") + " end":                                              true,
		"cluster a is g rep = int" + proc("f") + proc("g") + " end":                                              false,
		"cluster a is g, f rep = int" + proc("f") + proc("g") + " end":                                           false,
		"cluster a is f, g rep = int" + proc("f") + " end":                                                       false,
		"cluster a is f, f rep = int" + proc("f") + proc("f") + " end":                                           false,
		"cluster a is f rep = int" + proc("f") + proc("f") + " end":                                              false,
		"cluster a is f rep = int" + proc("f") + proc("g") + proc("g") + " end":                                  false,
		"cluster a is a rep = a" + proc("a") + " end":                                                            true,
		"cluster a is f rep = " + long + proc("f") + " end":                                                      false,
		"cluster x is a rep = int" + most + " end":                                                               true,
		"cluster x is a rep = int" + routines + " end":                                                           false,
		"cluster x is " + strings.Join(names[:20], ", ") + " rep = int" + most + " end":                          true,
		"cluster x is " + strings.Join(names, ", ") + " rep = int" + routines + " end":                           false,
		"cluster x is f rep = int proc f() is " + strings.Repeat("break;", 399) + "break end end":                false,
		"iter p() yields " + long + " is end":                                                                    false,
		"proc p() is x := " + strings.Repeat("(", 4000) + "1" + strings.Repeat(")", 4000) + " end":               true,
		"proc p() is x := a" + strings.Repeat("[a", 4000) + strings.Repeat("]", 4000) + " end":                   false,
		"proc p() is x := a" + strings.Repeat("[a", 4000) + strings.Repeat("]", 4000) + "$f() end":               false,
		"proc p() is x := a" + strings.Repeat("[a", 190) + strings.Repeat("]", 190) + " end":                     true,
		"proc p() is " + strings.Repeat("if a then else ", 900) + strings.Repeat("end ", 900) + "end":            false,
		"proc p() is " + strings.Repeat("begin ", 600) + strings.Repeat("except when others: end ", 600) + "end": false,
		"proc p() is x := " + strings.Repeat("f(", 6000) + strings.Repeat(")", 6000) + " end":                    false,
		"proc p() is if a then " + strings.Repeat("elseif a then ", 90) + "end end":                              true,
		"proc p() is x := a" + strings.Repeat(".b", 397) + " end":                                                true,
		"proc p() is x := a" + strings.Repeat(".b", 398) + " end":                                                false,
		"proc p() is begin except when a: when a: when others: end end":                                          true,
		"proc p() is tagcase a tag b(c: int): tag b(c: int): end end":                                            true,
		"proc p(t: ?t) returns record[b:?t,a:int,b:t] where t has t: proc(t) is var t: t := 1; break; return 1; yield nil; up(a).b := down(b).c; a() end": true,
	} {
		want := map[bool]api.Fault{true: ok, false: badTree}[want]
		if l, f := tree.Parse(src); f != want || f != ok && len(l) > 0 {
			t.Errorf("%.80q: %v", src, f)
		}
	}
}

// B1 to its end: random texts, most of them broken, are asked in a second way.
func TestParseAgreesWithTheGrammar(t *testing.T) {
	g := newGrammar(chapterGrammar)
	r := rand.New(rand.NewPCG(5, 6))
	m := newMaker(7)
	broken := 0
	for i := range 3000 {
		start := []string{"source", "source", "expr"}[i%3]
		texts := g.sentence(r, start)
		if start == "source" && i%2 == 0 {
			s, _ := tree.Print([]api.Module{m.module(), m.module()})
			texts = textsOf(s)
		}
		for range r.IntN(3) {
			texts = spoil(r, texts)
		}
		src := laidOut(r, texts)
		tokens, _ := token.Scan(src)
		if len(tokens) != len(texts) || len(src) > 20000 {
			continue
		}
		want := g.fault(start, tokens)
		var f api.Fault
		if start == "source" {
			_, f = tree.Parse(src)
		} else {
			_, f = tree.ParseExpr(src)
		}
		if f.Err == api.ErrTree || f.Err == api.ErrLimit {
			f = ok
		}
		if f != want {
			t.Fatalf("P2.1: %q: %v, and not %v", src, f, want)
		}
		if f != ok {
			broken++
		}
	}
	if broken < 1000 || broken > 2500 {
		t.Errorf("%d of 3000 texts are broken: too one-sided", broken)
	}
}

// The same for texts that go on as long as they can, and then with a token that may be wrong.
func TestParseOfFronts(t *testing.T) {
	g := newGrammar(chapterGrammar)
	r := rand.New(rand.NewPCG(14, 15))
	for i := range 300 {
		start := []string{"source", "expr", "expr"}[i%3]
		texts := g.walk(r, start, 5+r.IntN(30))
		for _, last := range strings.Fields("[ ] ( ) { } $ . , ; : := = + not x 1 int ?") {
			src := strings.Join(texts, " ") + "\n" + last
			tokens, _ := token.Scan(src)
			var f api.Fault
			if start == "source" {
				_, f = tree.Parse(src)
			} else {
				_, f = tree.ParseExpr(src)
			}
			want := g.fault(start, tokens)
			if f != want && (want != ok || f.Err != api.ErrTree) {
				t.Fatalf("P2.1: %q: %v, and not %v", src, f, want)
			}
		}
	}
}

// P2.4: where it goes wrong, the lines before have something behind them with which they are a source.
func TestWhereItGoesWrong(t *testing.T) {
	g := newGrammar(chapterGrammar)
	r := rand.New(rand.NewPCG(8, 9))
	for range 1500 {
		src := laidOut(r, spoil(r, g.sentence(r, "source")))
		_, f := tree.Parse(src)
		if f.Err != api.ErrParse {
			continue
		}
		front := ""
		for i, line := range strings.SplitAfter(src, "\n") {
			if i+1 < f.At {
				front += line
			}
		}
		tokens, _ := token.Scan(front)
		read, _ := g.read("source", tokens)
		if len(read.sets) != len(tokens)+1 {
			t.Fatalf("P2.4: %q: %v, but the lines before cannot go on", src, f)
		}
		whole := front + "\n" + strings.Join(read.rest("source"), "\n")
		if _, f := tree.Parse(whole); f.Err != api.OK && f.Err != api.ErrTree && f.Err != api.ErrLimit {
			t.Fatalf("P2.4: %q: %v", whole, f)
		}
	}
}

// R1: deep and strange texts.
func TestParseOfStrangeTexts(t *testing.T) {
	for _, s := range []string{"(", "f(", "a[", "a[b", "array[", "record[a:", "not(", "up(", "begin ", "if a then ", "if a then else ", "while a do ", "a$b(", "a{", "tagcase(", "int$b(", "?", "t[", ")", "]", "cluster ", "proc p() is ", "\x00", "\xff", "a.", "a;"} {
		deep := strings.Repeat(s, 20000/len(s))
		for _, front := range []string{"", "proc p() is x := ", "proc p() is ", "proc p(a: ", "cluster a is f rep = "} {
			src := (front + deep)[:min(20000, len(front+deep))]
			if l, f := tree.Parse(src); f == ok || len(l) > 0 {
				t.Errorf("%.40q: %v", src, f)
			}
		}
		if l, f := tree.ParseExpr(deep); f == ok || len(l) > 0 {
			t.Errorf("%.40q: %v", deep, f)
		}
		if tree.IsType(deep) || tree.IsOp(deep) {
			t.Errorf("%.40q is a type, or an operation", deep)
		}
	}
	r := rand.New(rand.NewPCG(10, 11))
	for range 2000 {
		b := make([]byte, r.IntN(200))
		for i := range b {
			b[i] = byte(r.IntN(256))
		}
		_, scanned := token.Scan(string(b))
		if _, f := tree.Parse(string(b)); scanned != ok && f != scanned {
			t.Errorf("%q: %v, and not %v", b, f, scanned)
		}
	}
}

func TestParseMakesNewMemory(t *testing.T) {
	m := newMaker(12)
	for range 100 {
		src := mustPrint(t, m.source())
		one, two := mustParse(t, src), mustParse(t, src)
		apart(t, "Parse", one, two)
		s, _ := tree.PrintExpr(m.exprNodes(50))
		e, _ := tree.ParseExpr(s)
		again, _ := tree.ParseExpr(s)
		apart(t, "ParseExpr", e, again)
	}
}

// R4: calls that run at once do not meet.
func TestCallsAtOnce(t *testing.T) {
	m := newMaker(13)
	var texts []string
	for range 30 {
		texts = append(texts, mustPrint(t, m.source()))
	}
	done := make(chan string)
	for range 8 {
		go func() {
			bad := ""
			for _, src := range texts {
				l, f := tree.Parse(src)
				if s, e := tree.Print(l); f != ok || e != api.OK || s != src {
					bad = src
				}
			}
			done <- bad
		}()
	}
	for range 8 {
		if bad := <-done; bad != "" {
			t.Errorf("R4: %q", bad)
		}
	}
}

func TestTokensOfAType(t *testing.T) {
	l, f := tree.ParseExpr("set [ % which\n ? t ] $ get _ f ( record\n[ a : int , b : null ] $ mod ( ) )")
	want := []api.Node{{Kind: api.ExCall, Name: "mod", Var: "record[a:int,b:null]"}, {Kind: api.ExCall, Name: "get_f", Var: "set[?t]", Kids: []int{0}}}
	if f != ok || !slices.EqualFunc(l, want, equalNode) {
		t.Errorf("%v, %v", l, f)
	}
}
