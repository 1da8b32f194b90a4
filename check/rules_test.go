package check_test

import (
	"slices"
	"strings"
	"testing"

	"argus/api"
	"argus/check"
)

// results calls all functions that return slices.
func results(l []api.Module) []any {
	p, _ := check.Check(l)
	modules, _ := check.Modules(p)
	out := []any{p, modules}
	for _, c := range p.Cores {
		c, _ = check.CoreOf(p, c.Owner, c.Name)
		out = append(out, c)
	}
	return out
}

// R3: results are new memory.
func TestResultsAreNewMemory(t *testing.T) {
	for _, l := range [][]api.Module{parse(t, town), parse(t, yard), newMaker(20, 0).right(t)} {
		apart(t, "once", append(results(l), l)...)
		apart(t, "twice", append(results(l), results(l)...)...)
	}
	p := copied(bodied(typed(api.ExInt, "int", 1), node(api.StPut, 0, 0), node(api.StSeq, 0, 1)))
	c, _ := check.CoreOf(p, "", "p")
	p.Cores[1].Slots = p.Cores[1].Slots[:2]
	l, _ := check.Modules(p)
	apart(t, "a program that was not checked", p, c, l)
}

// R3: arguments are not changed, and R4: what was returned does not change what comes.
func TestArgumentsStay(t *testing.T) {
	l := parse(t, town)
	shown := showModules(l)
	want := ""
	for range 3 {
		p, _ := check.Check(l)
		before := show(p)
		modules, _ := check.Modules(p)
		got := before + showModules(modules)
		for _, c := range p.Cores {
			x := core(t, p, c.Owner, c.Name)
			got += showCore(x)
			spoil(x)
		}
		check.CheckProgram(p)
		check.OwnType(p, "bag")
		check.RepOf(p, "bag")
		for _, m := range modules {
			for _, r := range m.Routines {
				clear(r.Params)
				spoil(api.Core{Sig: r.Sig, Nodes: r.Nodes})
			}
		}
		if show(p) != before || showModules(l) != shown {
			t.Error("R3: the arguments were changed")
		}
		for _, c := range p.Cores {
			spoil(c)
		}
		if want == "" {
			want = got
		}
		if got != want || showModules(l) != shown {
			t.Error("R4: the results are others")
		}
	}
}

// spoil overwrites what a core contains.
func spoil(c api.Core) {
	clear(c.Sig.Args)
	clear(c.Sig.Signals)
	clear(c.Slots)
	for _, n := range c.Nodes {
		clear(n.Kids)
	}
	clear(c.Nodes)
}

// R3: what lies in memory behind an argument stays too.
func TestMemoryBehindArgumentsStays(t *testing.T) {
	all := parse(t, town, "proc behind() is end")
	l := all[: len(all)-1 : len(all)]
	check.Check(l)
	if all[len(all)-1].Face.Name != "behind" {
		t.Error("R3: memory was changed")
	}
	p := yardProgram(t)
	more := api.Program{Faces: append(slices.Clone(p.Faces), api.Face{Name: "behind"}), Reps: append(slices.Clone(p.Reps), "behind"), Cores: append(slices.Clone(p.Cores), api.Core{Name: "behind"})}
	q := api.Program{Faces: more.Faces[:len(p.Faces)], Reps: more.Reps[:len(p.Reps)], Cores: more.Cores[:len(p.Cores)]}
	results(parse(t, yard))
	check.CheckProgram(q)
	check.Modules(q)
	check.CoreOf(q, "k", "f")
	if more.Faces[len(p.Faces)].Name != "behind" || more.Reps[len(p.Reps)] != "behind" || more.Cores[len(p.Cores)].Name != "behind" || show(q) != show(p) {
		t.Error("R3: memory was changed")
	}
}

// R3: nil slices and empty slices are the same.
func TestEmptySlices(t *testing.T) {
	l := parse(t, town)
	want := program(t, l)
	for i := range l {
		m := &l[i]
		m.Face.Needs = append([]api.Need{}, m.Face.Needs...)
		for j := range m.Routines {
			r := &m.Routines[j]
			r.Sig.Args, r.Sig.Signals, r.Params = append([]string{}, r.Sig.Args...), append([]string{}, r.Sig.Signals...), append([]string{}, r.Params...)
			for k := range r.Nodes {
				r.Nodes[k].Kids = append([]int{}, r.Nodes[k].Kids...)
			}
			if j < len(m.Face.Ops) {
				m.Face.Ops[j].Sig = r.Sig
			}
		}
	}
	p := program(t, l)
	if show(p) != show(want) {
		t.Errorf("R3: %s", show(p))
	}
	askValid(t, "with empty slices", p)
	askBack(t, p)
	for i := range p.Cores {
		c := &p.Cores[i]
		c.Slots = append([]string{}, c.Slots...)
		for k := range c.Nodes {
			c.Nodes[k].Kids = append([]int{}, c.Nodes[k].Kids...)
		}
	}
	askValid(t, "with more empty slices", p)
	askBack(t, p)
}

// R1: fields may have any values.
func TestArgumentsOfAnySort(t *testing.T) {
	m := newMaker(21, 0)
	word := func() string {
		return pick(m, "", "a", "k", "end", "[", "a[", "?t", "int", "k[int]", "array[int]", "bool", "equal", "\xff\x00", "v1", "x", "_", "mod", strings.Repeat("a[", 60), "record[a:int]", "oneof[a:int]")
	}
	words := func() []string {
		var l []string
		for range m.IntN(8) {
			l = append(l, word())
		}
		return l
	}
	number := func() int { return pick(m, 0, 1, 2, 3, -1, 60, 400, 1000000001, int(^uint(0)>>1), -int(^uint(0)>>1)-1) }
	nodes := func() []api.Node {
		var l []api.Node
		for range m.IntN(12) {
			n := api.Node{Kind: uint8(m.IntN(256)), Name: word(), Var: word(), Type: word(), N: number()}
			if m.IntN(4) > 0 {
				n.Kind = uint8(m.IntN(38))
			}
			for range m.IntN(4) {
				n.Kids = append(n.Kids, pick(m, number(), len(l)-1, len(l)-2))
			}
			l = append(l, n)
		}
		return l
	}
	sig := func() api.Sig {
		return api.Sig{Iter: m.IntN(2) == 0, Args: words(), Result: word(), Signals: words()}
	}
	anyFace := func() api.Face {
		f := api.Face{Name: word(), Kind: uint8(m.IntN(5)), Param: m.IntN(2) == 0}
		for range m.IntN(3) {
			f.Needs, f.Ops = append(f.Needs, api.Need{Op: word(), Sig: sig()}), append(f.Ops, api.Op{Name: word(), Sig: sig()})
		}
		return f
	}
	town, yards := parse(t, town), yardProgram(t)
	for range 2000 {
		l := slices.Clone(town)
		x := api.Module{Face: anyFace(), Rep: word()}
		for range m.IntN(4) {
			x.Routines = append(x.Routines, api.Routine{Name: word(), Sig: sig(), Params: words(), Nodes: nodes()})
		}
		l[m.IntN(len(l))] = x
		if p, f := check.Check(l); f == ok {
			askValid(t, "any", p)
		}
		p := copied(yards)
		c := &p.Cores[m.IntN(len(p.Cores))]
		switch m.IntN(5) {
		case 0:
			c.Nodes = nodes()
		case 1:
			c.Slots = words()
		case 2:
			c.Sig = sig()
		case 3:
			p.Faces[m.IntN(len(p.Faces))] = anyFace()
		case 4:
			*c = api.Core{Owner: word(), Name: word(), Sig: sig(), Slots: words(), Nodes: nodes()}
		}
		if isPlainlyValid(p) != (check.CheckProgram(p) == api.OK) {
			t.Errorf("E2: %s", show(p))
		}
		check.Modules(p)
		check.CoreOf(p, word(), word())
		check.OwnType(p, word())
		check.RepOf(p, word())
		check.Place(number(), number(), number())
		check.Spot(number())
	}
	check.CheckProgram(api.Program{Cores: make([]api.Core, 100000)})
	check.CheckProgram(api.Program{Faces: make([]api.Face, 100000), Reps: make([]string, 100000)})
}

// R4: calls that run at once do not meet.
func TestCallsAtOnce(t *testing.T) {
	l := parse(t, town)
	p := program(t, l)
	want := show(p)
	done := make(chan bool)
	for range 8 {
		go func() {
			same := true
			for range 5 {
				q, _ := check.Check(l)
				again, e := check.Modules(p)
				r, f := check.Check(again)
				same = same && show(q) == want && show(r) == want && e == api.OK && f == ok && check.CheckProgram(p) == api.OK
			}
			done <- same
		}()
	}
	for range 8 {
		if !<-done {
			t.Error("R4: the results are others")
		}
	}
}

// What is largest: 20 clusters of 20 routines, and nodes that stand as deep in each other as there is room.
func TestTheLargestModules(t *testing.T) {
	deep := strings.Repeat("if b then ", 40) + "break" + strings.Repeat(" end", 40)
	var routines, names []string
	for i := range 20 {
		name := "r" + string(rune('a'+i))
		names = append(names, name)
		routines = append(routines, "proc "+name+"(b: bool, x: k[?t]) returns k[?t] signals (a, b, c) is while b do "+deep+" end; return up(down(x)) end")
	}
	src := "cluster k[t] is " + strings.Join(names, ", ") + " rep = array[?t] " + strings.Join(routines, " ") + " end"
	var l []api.Module
	for i := range 20 {
		name := "k" + string(rune('a'+i))
		l = append(l, parse(t, strings.ReplaceAll(src, "k[", name+"["))...)
	}
	p := program(t, l)
	if len(p.Cores) != 400 {
		t.Errorf("%d cores", len(p.Cores))
	}
	if e := check.CheckProgram(p); e != api.OK {
		t.Errorf("E2: %d", e)
	}
	sum := "1" + strings.Repeat(" + 1)", 197)
	q := programOf(t, "proc p() returns int is return "+strings.Repeat("(", 197)+sum+" end")
	askValid(t, "a long sum", q)
	askBack(t, q)
}
