package check_test

import (
	"slices"
	"strings"
	"testing"

	"argus/api"
	"argus/check"
	"argus/kind"
	"argus/tree"
)

// askBoth compares what Check finds with what a second way does, and returns it.
func askBoth(t *testing.T, l []api.Module) (api.Program, api.Fault) {
	t.Helper()
	want, f := plainCheck(l)
	p, g := check.Check(l)
	if g != f || show(p) != show(want) {
		t.Fatalf("Check: %v, not %v\n%s\n%s\n%s", g, f, source(l), show(p), show(want))
	}
	return p, g
}

// P5.1 and P5.2: modules by chance, against a second way to check.
func TestModulesByChance(t *testing.T) {
	t.Parallel()
	seen := map[api.Errno]int{}
	for seed, mistakes := range []int{0, 200, 40} {
		m := newMaker(uint64(seed), mistakes)
		for range 60 * (1 + seed) {
			l := m.modules(t)
			p, f := askBoth(t, l)
			seen[f.Err]++
			askPlace(t, l, f)
			if f == ok {
				askValid(t, "P5.2", p)
			}
		}
	}
	for _, e := range []api.Errno{api.OK, api.ErrForm, api.ErrNone, api.ErrTwice, api.ErrOp, api.ErrFit, api.ErrFace, api.ErrOpen, api.ErrName, api.ErrType, api.ErrIter, api.ErrArgs, api.ErrValue, api.ErrUp, api.ErrReturn, api.ErrBreak} {
		if seen[e] < 2 {
			t.Errorf("error %d only %d times", e, seen[e])
		}
	}
}

// P5.7: the place of a fault is one of a module of the list, of a routine of it, and of a node of its body.
func askPlace(t *testing.T, l []api.Module, f api.Fault) {
	t.Helper()
	m, r, n := check.Spot(f.At)
	if check.Place(m, r, n) != f.At || m >= len(l) || r > 0 && r >= len(l[m].Routines) || n > 0 && n >= len(l[m].Routines[r].Nodes) {
		t.Fatalf("P5.7: %v: %d, %d, %d", f, m, r, n)
	}
}

// P5.1 and P5.2: modules that were right, each time with one change.
func TestBentModules(t *testing.T) {
	t.Parallel()
	m := newMaker(10, 0)
	seen := map[api.Errno]int{}
	for range 30 {
		l := m.right(t)
		for range 12 {
			bent := m.bent(l)
			p, f := askBoth(t, bent)
			seen[f.Err]++
			if f.Err != api.ErrTree {
				askPlace(t, bent, f)
			}
			if f == ok {
				askValid(t, "P5.2", p)
			}
		}
	}
	for _, e := range []api.Errno{api.OK, api.ErrTree, api.ErrOp, api.ErrFace, api.ErrName, api.ErrType, api.ErrArgs} {
		if seen[e] < 5 {
			t.Errorf("error %d only %d times", e, seen[e])
		}
	}
}

// bentProgram changes a program in one place.
func (m *maker) bentProgram(p api.Program) api.Program {
	p = copied(p)
	c := &p.Cores[m.IntN(len(p.Cores))]
	other := p.Cores[m.IntN(len(p.Cores))]
	i := m.IntN(len(c.Nodes))
	n, by := &c.Nodes[i], c.Nodes[m.IntN(len(c.Nodes))]
	switch m.IntN(20) {
	case 0:
		n.Kind = by.Kind
	case 1:
		n.Kind = uint8(m.IntN(40))
	case 2:
		n.Name = by.Name
	case 3:
		n.Var = by.Var
	case 4:
		n.Type = by.Type
	case 5:
		n.N = pick(m, by.N, m.IntN(len(c.Slots)+2)-1)
	case 6:
		n.Name, n.Var, n.N = by.Name, by.Var, by.N
	case 7:
		n.Kids = by.Kids
	case 8:
		if len(n.Kids) > 0 {
			n.Kids[m.IntN(len(n.Kids))] += m.IntN(3) - 1
		}
	case 9:
		c.Nodes = slices.Delete(c.Nodes, i, i+1)
	case 10:
		c.Nodes = slices.Insert(c.Nodes, i, by)
	case 11:
		if len(c.Slots) > 0 {
			c.Slots[m.IntN(len(c.Slots))] = pick(m, m.typ(2), c.Slots[m.IntN(len(c.Slots))])
		}
	case 12:
		c.Slots = append(c.Slots, m.typ(2))
	case 13:
		c.Owner = other.Owner
	case 14:
		c.Name = other.Name
	case 15:
		c.Sig = other.Sig
	case 16:
		c.Nodes = other.Nodes
	case 17:
		*c = other
	case 18:
		p.Reps[m.IntN(len(p.Reps))] = m.typ(2)
	case 19:
		*n, c.Nodes[m.IntN(len(c.Nodes))] = by, *n
	}
	return p
}

// P5.1, E2: programs that were valid, each time with one change, against a second way to look.
func TestBentPrograms(t *testing.T) {
	t.Parallel()
	m := newMaker(11, 0)
	valid, invalid := 0, 0
	for range 10 {
		p := program(t, m.right(t))
		for range 40 {
			q := m.bentProgram(p)
			e := check.CheckProgram(q)
			if want := isPlainlyValid(q); want != (e == api.OK) {
				t.Fatalf("CheckProgram: %d, the second way: %v\n%s", e, want, show(q))
			}
			if e == api.OK {
				valid++
				// A program that is valid is made by what Modules returns, or by nothing.
				if _, e := check.Modules(q); e == api.OK {
					askBack(t, q)
				}
			} else {
				invalid++
			}
		}
	}
	if valid < 60 || invalid < 150 {
		t.Errorf("%d valid, %d not", valid, invalid)
	}
}

// P5.3: Check of Modules of a program is the program.
func TestModulesBack(t *testing.T) {
	t.Parallel()
	m := newMaker(12, 0)
	asked := 0
	for range 60 {
		p := program(t, m.right(t))
		if slices.ContainsFunc(p.Cores, func(c api.Core) bool { return len(c.Nodes) > api.MaxNodes }) {
			continue
		}
		asked++
		askBack(t, p)
	}
	if asked < 40 {
		t.Errorf("only %d", asked)
	}
}

// P5.4: modules in another order make the same program, or both have a fault.
func TestOrders(t *testing.T) {
	t.Parallel()
	m := newMaker(13, 150)
	faults := 0
	for range 60 {
		l := m.modules(t)
		p, f := check.Check(l)
		for range 3 {
			m.Shuffle(len(l), func(i, j int) { l[i], l[j] = l[j], l[i] })
			q, g := check.Check(l)
			if (f == ok) != (g == ok) || show(p) != show(q) {
				t.Fatalf("P5.4: %v, %v", f, g)
			}
		}
		if f != ok {
			faults++
		}
	}
	if faults < 10 || faults > 50 {
		t.Errorf("%d faults: too one-sided", faults)
	}
}

// renamed gives the variables of all routines other names.
func renamed(l []api.Module, name func(string) string) []api.Module {
	l = clones(l)
	for _, m := range l {
		for j := range m.Routines {
			r := &m.Routines[j]
			for i, x := range r.Params {
				r.Params[i] = name(x)
			}
			for i := range r.Nodes {
				switch n := &r.Nodes[i]; n.Kind {
				case api.ExVar, api.StVar, api.StSet, api.StFor:
					n.Name = name(n.Name)
				case api.StArm:
					n.Var = name(n.Var)
				}
			}
		}
	}
	return l
}

// P5.5: with other names of variables the program is the same, and so is a fault.
func TestNames(t *testing.T) {
	t.Parallel()
	m := newMaker(14, 150)
	// Names of modules and types are free for variables, too.
	given := map[string]string{"x": "inc", "v1": "coin", "v2": "t", "v3": "v1", "v4": "box", "me": "k", "b": "a", "a": "b", "i": "f"}
	for range 80 {
		l := m.modules(t)
		p, f := check.Check(l)
		for _, name := range []func(string) string{
			func(s string) string {
				if to := given[s]; to != "" {
					return to
				}
				return "z" + s
			},
			func(s string) string { return "q" + s + "q" },
		} {
			q, g := check.Check(renamed(l, name))
			if g != f || show(p) != show(q) {
				t.Fatalf("P5.5: %v, %v\n%s", f, g, source(l))
			}
		}
	}
}

// P5.6: further modules change nothing of those that do not use them, and a module that is left out nothing of the others.
func TestMoreModules(t *testing.T) {
	t.Parallel()
	m := newMaker(15, 0)
	further := "proc furthera() is furthera() end cluster furtherb[t] is f where t has equal: proc(?t, ?t) returns bool, lt: proc(?t, ?t) returns bool rep = furtherc[?t] proc f(x: furtherb[?t]) is end end cluster furtherc[t] is g rep = array[?t] iter g(x: array[furtherc[coin]]) yields ?t is end end "
	for range 60 {
		l := m.right(t)
		all := append(parse(t, further), l...)
		m.Shuffle(len(all), func(i, j int) { all[i], all[j] = all[j], all[i] })
		p, f := check.Check(l)
		q, g := check.Check(all)
		if f != ok || g != ok {
			t.Fatalf("P5.6: %v, %v", f, g)
		}
		q.Cores = slices.DeleteFunc(q.Cores, func(c api.Core) bool { return strings.HasPrefix(c.Owner+c.Name, "further") })
		for i := len(q.Faces) - 1; i >= 0; i-- {
			if strings.HasPrefix(q.Faces[i].Name, "further") {
				q.Faces, q.Reps = slices.Delete(q.Faces, i, i+1), slices.Delete(q.Reps, i, i+1)
			}
		}
		if show(p) != show(q) {
			t.Fatalf("P5.6: %s\nnot\n%s", show(q), show(p))
		}
	}
}

// P5.6: each module of the town that is used nowhere can be left out.
func TestModulesLeftOut(t *testing.T) {
	l := parse(t, town)
	p := program(t, l)
	left := 0
	for i, m := range l {
		rest := slices.Delete(slices.Clone(l), i, i+1)
		if isUsed(t, rest, m.Face.Name) {
			if _, f := check.Check(rest); f == ok {
				t.Errorf("P5.6: %s is used", m.Face.Name)
			}
			continue
		}
		left++
		q := program(t, rest)
		for _, c := range q.Cores {
			if showCore(core(t, p, c.Owner, c.Name)) != showCore(c) {
				t.Errorf("P5.6: without %s: %s", m.Face.Name, showCore(c))
			}
		}
	}
	if left < 5 {
		t.Errorf("only %d", left)
	}
}

// isUsed reports whether modules name another one, in their faces, representations or bodies.
func isUsed(t *testing.T, l []api.Module, name string) bool {
	t.Helper()
	for _, m := range l {
		names, _ := kind.Names(m.Rep)
		for _, r := range m.Routines {
			uses, e := tree.Uses(r.Nodes)
			if e != api.OK {
				t.Fatal(e)
			}
			names = append(names, uses...)
			for _, x := range append(slices.Clone(r.Sig.Args), r.Sig.Result) {
				more, _ := kind.Names(x)
				names = append(names, more...)
			}
		}
		if slices.Contains(names, name) {
			return true
		}
	}
	return false
}

// P5.7: a further module behind the others, which is good by itself and used nowhere, does not change a fault.
func TestFaultsStay(t *testing.T) {
	t.Parallel()
	m := newMaker(16, 40)
	more := []string{
		"proc further() is end", "proc further(x: coin) is put x end", "proc further() is break; x := nowhere$f() end",
		"cluster further is f rep = coin proc f() is end proc g(x: nowhere) is end end", "cluster further[t] is f rep = array[?t] proc f(x: box[?t]) is return 1 end end",
		"iter aa() yields further2 is yield 1 end cluster further2 is f rep = int proc f() is yield nil end end",
	}
	faults := 0
	for range 100 {
		l := m.modules(t)
		_, f := check.Check(l)
		if f == ok {
			continue
		}
		faults++
		for _, s := range more {
			if _, g := check.Check(append(slices.Clone(l), parse(t, s)...)); g != f {
				t.Fatalf("P5.7: with %s: %v, not %v\n%s", s, g, f, source(l))
			}
		}
	}
	if faults < 40 {
		t.Errorf("only %d", faults)
	}
}

// P5.8: what is hidden has no use outside.
func TestHidden(t *testing.T) {
	for _, x := range []row{
		{"c := coin$turned(c)", api.ErrOp, 1},
		{"for x: coin in coin$sides() do end", api.ErrOp, 0},
		{"if bag[int]$find(bag[int]$new(), 1) then end", api.ErrOp, 2},
		{"b := down(c)", api.ErrUp, 1},
		{"c := up(b)", api.ErrUp, 1},
		{"put down(box[int]$new(1)).v", api.ErrUp, 2},
	} {
		askFault(t, x.statements, framed(t, x.statements), api.Fault{Err: x.e, At: x.node})
		// Nor has it one in another cluster.
		l := parse(t, "cluster other is f rep = null "+strings.Replace(frame, "proc p", "proc f", 1)+x.statements+" end end", town)
		e := x.e
		if e == api.ErrUp {
			e = api.ErrType
		}
		askFault(t, x.statements, l, api.Fault{Err: e, At: x.node})
	}
	for _, src := range []string{
		"cluster other is f rep = coin proc f(x: other) returns bool is return down(down(x)) end end",
		"cluster other is f rep = coin proc f(x: other) returns coin is return coin$turned(down(x)) end end",
		"cluster other[t] is f rep = bag[?t] proc f(x: ?t, y: other[?t]) returns bool is return bag[?t]$find(down(y), x) end end",
	} {
		if _, f := check.Check(parse(t, src, town)); f == ok {
			t.Errorf("P5.8: %s", src)
		}
	}
}

// T2: programs of right modules say of each node what it is: the type of each slot and of each expression is good.
func TestTypesAreGood(t *testing.T) {
	m := newMaker(17, 0)
	for range 30 {
		p := program(t, m.right(t))
		for _, c := range p.Cores {
			for _, n := range c.Nodes {
				isExpr := n.Kind <= api.ExDown
				if !isExpr && n.Type != "" || isExpr && n.Kind != api.ExCall && n.Type == "" {
					t.Fatalf("T2: %s", showNode(n))
				}
				if n.Type != "" && kind.Check(n.Type) != api.OK {
					t.Fatalf("T2: %s", showNode(n))
				}
			}
		}
	}
}
