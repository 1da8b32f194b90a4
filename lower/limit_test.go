package lower_test

import (
	"math/rand/v2"
	"slices"
	"strings"
	"testing"

	"argus/api"
	"argus/flow"
	"argus/lower"
	"argus/sample"
)

// How many routines may stand inside each other, and how many objects there may be, is as it was.
func TestDepthAndObjects(t *testing.T) {
	p := town(t, `
iter dive(n: int) yields int is if n = 0 then yield 0 else for x: int in dive(n - 1) do yield x end end end
proc objects(n: int) is while 0 < n do box[int]$new(n); n := n - 1 end end
proc main(k: int, n: int) returns int is
  if k = 0 then return deep(n) end;
  if k = 1 then for x: int in upto(1, 1) do return deep(n) end end;
  if k = 2 then for y: int in dive(n) do return y end end;
  if k = 3 then objects(n); return 1 end
end`)
	for _, x := range []struct {
		k, n int
		want string
	}{{0, 398, "done 398"}, {0, 399, "spent"}, {1, 398, "done 398"}, {1, 399, "spent"}, {2, 398, "done 0"}, {2, 399, "spent"}, {3, 5000, "done 1"}, {3, 5001, "spent"}} {
		if s := run(t, p, x.k, x.n); s != x.want {
			t.Errorf("P9.2: main(%d, %d): %s, not %s", x.k, x.n, s, x.want)
		}
	}
}

// fill repeats statements, made anew each time, as often as there is room for them in a core with other ones.
func fill(others int, make func() *node) []*node {
	var l []*node
	n := len(numbered(make())) - 1
	for range (api.MaxCore - 1 - others) / n {
		l = append(l, make())
	}
	return l
}

// nest puts a statement into itself, as often as there is room for it.
func nest(others int, make func(inner ...*node) *node) *node {
	n := len(numbered(make())) - 1
	x := make()
	for range (api.MaxCore-1-others)/n - 1 {
		x = make(x)
	}
	return x
}

// handled puts statements into a StExcept with a handler for each of the signals of p and q: 16 nodes more.
func handled(statements ...*node) *node {
	n := newNode(api.StExcept, seq(statements...))
	for _, s := range strings.Fields("a b c d e f failure") {
		n.kids = append(n.kids, when(s))
	}
	return n
}

func over(inner ...*node) *node {
	return newNode(api.StFor, callOf("give", "int"), seq(inner...)).of(2)
}

func as(inner ...*node) *node { return newNode(api.StWhile, callOf("p", "bool"), seq(inner...)) }

// slotsOfLargest are those of bodies, with further ones: as many as there may be.
func slotsOfLargest() []string {
	l := slotsOfBodies()
	return append(l, slices.Repeat([]string{"int"}, api.MaxSlots-len(l))...)
}

func mainOf(p api.Program) api.Core { return p.Cores[slices.IndexFunc(p.Cores, isMain)] }

// hasRoom asks for a flow of main that is like it, and has no more registers and blocks than main's slots and nodes account for.
func hasRoom(t *testing.T, what string, p api.Program) {
	t.Helper()
	c, f := mainOf(p), lowered(t, p, "main")
	if is, e := lower.Like(p, f); !is || e != api.OK || flow.Check(f) != api.OK {
		t.Errorf("P9.3: %s: %v, %d, %d blocks, %d registers: %d", what, is, e, len(f.Blocks), len(f.Regs), flow.Check(f))
	}
	if most := len(c.Slots) + len(c.Nodes) + 1; len(f.Regs) > most {
		t.Errorf("I1: %s: %d registers, not %d", what, len(f.Regs), most)
	}
	// What leaves iterations has up to 300 blocks, and long rows of instructions take some more.
	if most := len(c.Nodes) + 1 + 300 + 3*len(c.Nodes)/api.MaxIns; len(f.Blocks) > most {
		t.Errorf("I1: %s: %d blocks, not %d", what, len(f.Blocks), most)
	}
}

// wrap is an operation of a type with one argument.
type wrap struct{ of, name, arg, result string }

// Rows of operations that are the arguments of each other, as long as there may be: each node of them has a value.
func TestLargestRows(t *testing.T) {
	t.Parallel()
	const flags, fields = "oneof[a:int,b:bool]", "record[x:bool]"
	asks := []wrap{{flags, "make_b", "bool", flags}, {flags, "is_b", flags, "bool"}}
	rows := map[string][]wrap{
		"asks for b": asks,
		"asks for a": {asks[0], {flags, "is_a", flags, "bool"}},
		"fields":     {{fields, "make", "bool", fields}, {fields, "get_x", fields, "bool"}},
		"nots":       {{"bool", "not", "bool", "bool"}},
	}
	rows["nots and asks"] = slices.Concat(rows["nots"], asks)
	rows["all"] = slices.Concat(rows["nots and asks"], rows["asks for a"], rows["fields"])
	p := programOf(t, worker)
	for name, row := range rows {
		for i := range uint64(3) {
			r := rand.New(rand.NewPCG(i, 9))
			x, kind := newNode(api.ExBool).of(r.IntN(2)).typed("bool"), "bool"
			for n := 1; n < api.MaxCore-6 || kind != "bool"; n++ {
				fits := slices.DeleteFunc(slices.Clone(row), func(w wrap) bool { return w.arg != kind })
				w := sample.Pick(r, fits...)
				x, kind = opOf(w.of, w.name, w.result, x), w.result
			}
			q := withMain(t, p, slotsOfLargest()[2:], newNode(api.StIf, x, seq(newNode(api.StReturn, num(1)))))
			hasRoom(t, name, q)
			run(t, q, 0, 1)
		}
	}
}

// Cases that ask for as many parts as they can, each one inside the one before.
func TestLargestCases(t *testing.T) {
	t.Parallel()
	const many = "oneof[a:int,b:int,c:int,d:int,e:int,f:int]"
	p := programOf(t, worker)
	for _, arms := range []string{"fedcba", "edcba", "fabcd", "fed", "f", "a"} {
		body := nest(0, func(inner ...*node) *node {
			c := newNode(api.StCase, opOf(many, "make_a", many, variable(0, "int")))
			for _, part := range arms {
				c.kids = append(c.kids, newNode(api.StArm, seq()).named(string(part)).of(2))
			}
			c.kids[len(arms)].kids[0].kids = inner
			return c
		})
		q := withMain(t, p, slotsOfLargest()[2:], body)
		hasRoom(t, arms, q)
		run(t, q, 0, 1)
	}
}

// The largest cores have flows, whatever they are made of.
func TestLargestCores(t *testing.T) {
	p := programOf(t, worker)
	once := func(x *node) []*node { return []*node{x} }
	set := func() *node { return newNode(api.StSet, num(1)).of(2) }
	sum := func() *node { return newNode(api.StSet, opOf(sums, "make_a", sums, num(1))).of(6) }
	is := func() *node { return opOf(sums, "is_a", "bool", variable(6, sums)) }
	for name, body := range map[string][]*node{
		"numbers":       fill(0, set),
		"sums":          append(beginning(), fill(20, sum)...),
		"calls":         fill(0, func() *node { return do(callOf("p", "bool")) }),
		"handled calls": once(handled(fill(16, func() *node { return do(callOf("p", "bool")) })...)),
		"six calls": append(beginning(), fill(20, func() *node {
			q := func() *node { return callOf("q", "int", callOf("q", "int", num(5))) }
			return do(opOf(pairs, "set_l", "", opOf(pairs, "make", pairs, q(), variable(4, "array[int]")), q()))
		})...),
		"whiles":        fill(0, func() *node { return as() }),
		"nested whiles": once(nest(0, as)),
		"fors":          fill(0, func() *node { return over() }),
		"nested fors":   once(nest(0, over)),
		"handled fors":  once(handled(nest(16, over))),
		"handled fors with calls": once(handled(nest(16, func(inner ...*node) *node {
			return over(append(inner, do(callOf("p", "bool")))...)
		}))),
		"handlers in fors": once(nest(0, func(inner ...*node) *node {
			return over(newNode(api.StExcept, seq(inner...), when("a"), when("")))
		})),
		"returns in fors": once(nest(0, func(inner ...*node) *node {
			return over(append(inner, newNode(api.StIf, callOf("p", "bool"), seq(newNode(api.StReturn, num(1)))))...)
		})),
		"signals in fors": once(handled(nest(16, func(inner ...*node) *node {
			return over(append(inner, newNode(api.StIf, callOf("p", "bool"), seq(newNode(api.StSignal).named("a"))))...)
		}))),
		"breaks in fors": once(nest(0, func(inner ...*node) *node {
			return over(append(inner, newNode(api.StIf, callOf("p", "bool"), seq(newNode(api.StBreak))))...)
		})),
		"ifs": fill(0, func() *node { return newNode(api.StIf, callOf("p", "bool"), seq()) }),
		"ifs with else": fill(0, func() *node {
			return newNode(api.StIf, callOf("p", "bool"), seq(set()), seq(set()))
		}),
		"nested ifs": once(nest(0, func(inner ...*node) *node {
			return newNode(api.StIf, callOf("p", "bool"), seq(), seq(inner...))
		})),
		"tags": append(beginning(), fill(20, func() *node {
			return newNode(api.StSet, opOf("bool", "and", "bool", is(), is())).of(1)
		})...),
		"cases": append(beginning(), fill(20, func() *node {
			return newNode(api.StCase, variable(6, sums), newNode(api.StArm, seq()).named("b").of(4))
		})...),
		"full cases": append(beginning(), fill(20, func() *node {
			return newNode(api.StCase, opOf(sums, "make_a", sums, num(1)), newNode(api.StArm, seq()).named("b").of(4), newNode(api.StArm, seq()).named("a").of(2))
		})...),
		"handled cases": append(beginning(), nest(20, func(inner ...*node) *node {
			c := newNode(api.StCase, variable(6, sums), newNode(api.StArm, seq(inner...)).named("a").of(2))
			return newNode(api.StExcept, seq(c), when(""))
		})),
		"excepts": fill(0, func() *node { return newNode(api.StExcept, seq(do(callOf("p", "bool"))), when("b"), when("")) }),
		"nested excepts": once(nest(0, func(inner ...*node) *node {
			return newNode(api.StExcept, seq(append(inner, do(callOf("p", "bool")))...), when(""))
		})),
	} {
		q := withMain(t, p, slotsOfLargest()[2:], body...)
		if n := len(mainOf(q).Nodes); n < 780 {
			t.Errorf("%s: %d nodes", name, n)
		}
		hasRoom(t, name, q)
		run(t, q, 0, 1)
	}
}

func isMain(c api.Core) bool { return c.Name == "main" }

// Variables of one name of a core may be one slot: also that of what is told apart, and of what is found in it.
func TestSharedSlots(t *testing.T) {
	p := programOf(t, worker)
	const rep = "oneof[a:int,b:ring]"
	c := p.Cores[slices.IndexFunc(p.Cores, func(c api.Core) bool { return c.Owner == "ring" })]
	ring := func(e *node) *node { return newNode(api.ExUp, e).typed("ring") }
	set := func(e *node) *node { return newNode(api.StSet, e).of(1) }
	c.Slots = append(c.Slots, "ring", "int")
	c.Nodes = numbered(
		set(ring(variable(0, rep))),
		set(ring(opOf(rep, "make_b", rep, variable(1, "ring")))),
		newNode(api.StCase, newNode(api.ExDown, variable(1, "ring")).typed(rep),
			newNode(api.StArm, seq(newNode(api.StCase, newNode(api.ExDown, variable(1, "ring")).typed(rep),
				newNode(api.StArm, seq(newNode(api.StPut, variable(2, "int")))).named("a").of(2)))).named("b").of(1)),
		newNode(api.StReturn, variable(1, "ring")),
	)
	p.Cores[slices.IndexFunc(p.Cores, func(c api.Core) bool { return c.Owner == "ring" })] = c
	sum := opOf(rep, "make_a", rep, variable(0, "int"))
	p = withMain(t, p, nil, do(opOf("ring", "wrap", "ring", sum)), newNode(api.StReturn, num(2)))
	if s := run(t, p, 7, 0); s != "done 2 put 7" {
		t.Errorf("P9.2: %s", s)
	}
}

// Bodies by chance, of up to as many nodes as there may be, whose variables are used anywhere.
func TestBodiesByChance(t *testing.T) {
	t.Parallel()
	p := programOf(t, worker)
	seen := map[uint8]int{}
	for i := range 400 {
		m := &bodies{Rand: rand.New(rand.NewPCG(uint64(i), 9))}
		nodes := 150
		if i%4 == 0 {
			nodes = 700
		}
		q := withMain(t, p, slotsOfBodies()[2:], m.body(nodes)...)
		hasRoom(t, "a body by chance", q)
		l := flowsOf(t, q)
		for range 3 {
			args := []int{m.IntN(6) - 1, m.IntN(2)}
			by, of := runs(t, q, l, "main", args, 3000)
			if by.Kind == api.RanSpent || of.Kind == api.RanSpent {
				seen[api.RanSpent]++
				continue
			}
			if showRan(by) != showRan(of) {
				t.Fatalf("P9.2: body %d: main(%v): %s, not %s", i, args, showRan(of), showRan(by))
			}
			seen[by.Kind]++
		}
	}
	for kind := api.RanDone; kind <= api.RanSpent; kind++ {
		if seen[kind] < 40 {
			t.Errorf("%v", seen)
		}
	}
}
