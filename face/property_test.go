package face_test

import (
	"slices"
	"strings"
	"testing"

	"argus/api"
	"argus/face"
	"argus/kind"
)

// P4.1, D1: faces by chance, most of which are no library.
func TestCheckAllByChance(t *testing.T) {
	m := newMaker(1)
	seen := map[api.Errno]int{}
	for range 3000 {
		l := m.faces()
		if m.IntN(10) == 0 {
			m.Shuffle(len(l), func(i, j int) { l[i], l[j] = l[j], l[i] })
		}
		at, want := plain{faces: l}.library()
		askAll(t, "by chance:\n"+show(l), l, at, want)
		seen[want]++
		for _, f := range l {
			askCheck(t, f.Name, f, api.OK)
		}
	}
	for _, e := range []api.Errno{api.OK, api.ErrTwice, api.ErrNone, api.ErrFit} {
		if seen[e] < 50 {
			t.Errorf("error %d only %d times", e, seen[e])
		}
	}
}

// P4.1, D3 and D4: what a second way finds of types by chance.
func TestTypesByChance(t *testing.T) {
	m := newMaker(2)
	seen := map[api.Errno]int{}
	for range 100 {
		p := plain{faces: m.library(), needs: m.needs(4)}
		for range 30 {
			typ := m.typ(1+m.IntN(5), m.IntN(2) == 0)
			p.param = m.IntN(2) == 0
			want := p.good(typ)
			seen[want]++
			if e := face.Good(p.faces, p.needs, p.param, typ); e != want {
				t.Fatalf("Good(%s): %d, not %d\n%s%s", typ, e, want, show(p.faces), show(p.needs))
			}
			p.param = len(p.needs) > 0 || strings.Contains(typ, "?")
			askOps(t, p, typ)
		}
	}
	for _, e := range []api.Errno{api.OK, api.ErrOpen, api.ErrNone, api.ErrFit} {
		if seen[e] < 100 {
			t.Errorf("error %d only %d times", e, seen[e])
		}
	}
}

// askOps compares the operations of a type with those that a second way finds.
func askOps(t *testing.T, p plain, typ string) {
	t.Helper()
	good := p.good(typ)
	want := map[string]string{}
	whole := good
	if good == api.OK {
		want = p.ops(typ)
	}
	for name, s := range want {
		e := api.OK
		if s == tooLong {
			e, s = api.ErrLimit, text(api.Sig{})
			whole = e
		}
		if got, err := face.OpOf(p.faces, p.needs, typ, name); err != e || text(got) != s {
			t.Fatalf("OpOf(%s, %s): %s, %d, not %s", typ, name, text(got), err, s)
		}
	}
	for _, name := range []string{"none", "equal", "new", "get_l", "make", "main"} {
		e := good
		if _, isThere := want[name]; isThere {
			continue
		} else if good == api.OK {
			e = api.ErrOp
		}
		if got, err := face.OpOf(p.faces, p.needs, typ, name); err != e || !isEmpty(got) {
			t.Fatalf("OpOf(%s, %s): %s, %d, not %d", typ, name, text(got), err, e)
		}
	}
	for _, n := range p.needs {
		for _, x := range append(slices.Clone(n.Sig.Args), n.Sig.Result) {
			if x != "" && p.good(x) != api.OK {
				whole = api.ErrFace
			}
		}
	}
	got, e := face.OpsOf(p.faces, p.needs, typ)
	if e != whole || e != api.OK && !isEmpty(got) || e == api.OK && len(got) != len(want) {
		t.Fatalf("OpsOf(%s): %d operations, %d, not %d", typ, len(got), e, whole)
	}
	for i, o := range got {
		if want[o.Name] != text(o.Sig) || i > 0 && got[i-1].Name >= o.Name {
			t.Fatalf("OpsOf(%s): %s %s", typ, o.Name, text(o.Sig))
		}
	}
}

// P4.1, D5 and D6: what fits, by chance.
func TestFitsByChance(t *testing.T) {
	m := newMaker(3)
	fitted, unfitted := 0, 0
	for range 150 {
		p := plain{faces: m.library(), needs: m.needs(4)}
		for range 20 {
			typ := m.typ(1+m.IntN(4), m.IntN(3) == 0)
			p.param = len(p.needs) > 0 || strings.Contains(typ, "?")
			list := m.needs(2)
			want, op := p.good(typ), ""
			if want == api.OK {
				op = p.unfit(list, typ)
			}
			got, fits, e := face.Fits(p.faces, p.needs, list, typ)
			if got != op || e != want || fits != (op == "" && want == api.OK) {
				t.Fatalf("Fits(%s, %s): %q, %v, %d, not %q, %d", show(list), typ, got, fits, e, op, want)
			}
			if fits {
				fitted++
			} else {
				unfitted++
			}
			askSigOf(t, p, typ)
		}
	}
	if fitted < 250 || unfitted < 250 {
		t.Errorf("%d fit, %d do not: too one-sided", fitted, unfitted)
	}
}

func askSigOf(t *testing.T, p plain, arg string) {
	t.Helper()
	for _, name := range []string{"a", "b", "p", "nowhere"} {
		f := p.find(name)
		e, s := api.OK, text(api.Sig{})
		switch good := p.good(arg); {
		case name != "p" || !f.Param:
			e = api.ErrNone
		case good != api.OK:
			e = good
		case p.unfit(f.Needs, arg) != "":
			e = api.ErrFit
		case filled(f.Ops[0].Sig, arg) == tooLong:
			e = api.ErrLimit
		default:
			s = filled(f.Ops[0].Sig, arg)
		}
		if got, err := face.SigOf(p.faces, p.needs, name, arg); err != e || text(got) != s {
			t.Fatalf("SigOf(%s, %s): %s, %d, not %s, %d", name, arg, text(got), err, s, e)
		}
	}
}

// P4.2: all types in the signatures of the operations of a good type are good.
func TestOperationsAreGood(t *testing.T) {
	m := newMaker(5)
	asked := 0
	for range 80 {
		p := plain{faces: m.library(), needs: m.needs(3)}
		for range 20 {
			typ := m.good(plain{p.faces, p.needs, len(p.needs) > 0}, 1+m.IntN(4))
			l, e := face.OpsOf(p.faces, p.needs, typ)
			if e != api.OK {
				continue
			}
			for _, x := range typesIn(api.Face{Ops: l}) {
				asked++
				if e := face.Good(p.faces, p.needs, len(p.needs) > 0, x); e != api.OK {
					t.Fatalf("P4.2: %s of %s: %d\n%s", x, typ, e, show(p.faces))
				}
			}
		}
	}
	if asked < 2000 {
		t.Errorf("only %d types", asked)
	}
}

// P4.3: the operations of an open type with a closed one put in are those of the type with it put in.
func TestPuttingIn(t *testing.T) {
	m := newMaker(6)
	asked := 0
	for range 300 {
		p := plain{faces: m.library(), needs: m.needs(1), param: true}
		for range 20 {
			open, arg := m.good(p, 2+m.IntN(2)), m.typ(1+m.IntN(2), false)
			put, e := kind.With(open, arg)
			isOpen, _ := kind.Open(open)
			if _, fits, err := face.Fits(p.faces, nil, p.needs, arg); e != api.OK || !isOpen || open == "?t" || !fits || err != api.OK {
				continue
			}
			before, e1 := face.OpsOf(p.faces, p.needs, open)
			after, e2 := face.OpsOf(p.faces, nil, put)
			if e1 != api.OK || e2 != api.OK {
				continue
			}
			asked++
			for i, o := range before {
				if filled(o.Sig, arg) != text(after[i].Sig) || o.Name != after[i].Name || len(before) != len(after) {
					t.Fatalf("P4.3: %s of %s with %s: %s, not %s", o.Name, open, arg, filled(o.Sig, arg), text(after[i].Sig))
				}
			}
		}
	}
	if asked < 300 {
		t.Errorf("only %d", asked)
	}
}

// P4.4: the parameter fits the needs of the scope; what fits some needs fits some of them; clusters are good by their arguments.
func TestFitting(t *testing.T) {
	m := newMaker(7)
	for range 120 {
		p := plain{faces: m.library(), needs: m.needs(4)}
		if op, fits, e := face.Fits(p.faces, p.needs, p.needs, "?t"); op != "" || !fits || e != api.OK {
			t.Fatalf("P4.4: %q, %v, %d\n%s", op, fits, e, show(p.needs))
		}
		for range 10 {
			list := m.needs(4)
			typ := m.typ(1+m.IntN(3), len(p.needs) > 0)
			if _, fits, _ := face.Fits(p.faces, p.needs, list, typ); fits {
				some := slices.DeleteFunc(slices.Clone(list), func(api.Need) bool { return m.IntN(2) == 0 })
				if _, fits, e := face.Fits(p.faces, p.needs, some, typ); !fits || e != api.OK {
					t.Fatalf("P4.4: %s fits %s, not %s", typ, show(list), show(some))
				}
			}
			askCluster(t, p, typ)
		}
	}
}

// askCluster asks whether types of clusters are good if their arguments are, and fit, and only then.
func askCluster(t *testing.T, p plain, arg string) {
	t.Helper()
	for _, f := range p.faces {
		if f.Kind != api.ModCluster || !f.Param || kind.Check(f.Name+"["+arg+"]") != api.OK {
			continue
		}
		param := strings.Contains(arg, "?t") || len(p.needs) > 0
		_, fits, _ := face.Fits(p.faces, p.needs, f.Needs, arg)
		isGood := face.Good(p.faces, p.needs, param, arg) == api.OK
		if e := face.Good(p.faces, p.needs, param, f.Name+"["+arg+"]"); (e == api.OK) != (isGood && fits) {
			t.Fatalf("P4.4: %s[%s]: %d, the argument is good: %v, fits: %v", f.Name, arg, e, isGood, fits)
		}
	}
}

// changed makes a face that is like another one, and often extends it.
func (m *maker) changed(f api.Face) api.Face {
	g := f
	g.Needs = slices.DeleteFunc(slices.Clone(f.Needs), func(api.Need) bool { return m.IntN(4) == 0 })
	g.Ops = slices.Clone(f.Ops)
	if f.Kind == api.ModCluster {
		if len(g.Ops) > 1 && m.IntN(4) == 0 {
			g.Ops = g.Ops[1:]
		}
		if m.IntN(2) == 0 {
			g.Ops = append(g.Ops, m.op("more", f.Param))
		}
		m.Shuffle(len(g.Ops), func(i, j int) { g.Ops[i], g.Ops[j] = g.Ops[j], g.Ops[i] })
	}
	if face.Check(g) != api.OK {
		return f
	}
	return g
}

// P4.5, the first half: Extends is a preorder, and of two that extend each other all but the order is the same.
func TestExtendsIsAPreorder(t *testing.T) {
	m := newMaker(8)
	extends := func(f, g api.Face) bool {
		is, e := face.Extends(f, g)
		if e != api.OK {
			t.Fatalf("Extends: %d\n%s%s", e, show(f), show(g))
		}
		return is
	}
	chains, both := 0, 0
	for range 3000 {
		f := m.cluster(pick(m, "a", "b", "c"))
		g := m.changed(f)
		h := m.changed(pick(m, f, g))
		if !extends(f, f) {
			t.Fatalf("P4.5: itself\n%s", show(f))
		}
		if extends(f, g) && extends(g, h) {
			chains++
			if !extends(f, h) {
				t.Fatalf("P4.5: %s%s%s", show(f), show(g), show(h))
			}
		}
		if extends(f, g) && extends(g, f) {
			both++
			if !isSame(f.Needs, g.Needs) || !isSame(byNames(f.Ops), byNames(g.Ops)) {
				t.Fatalf("P4.5: both\n%s%s", show(f), show(g))
			}
		}
	}
	if chains < 300 || both < 300 {
		t.Errorf("%d chains, %d both", chains, both)
	}
}

func byNames(l []api.Op) []api.Op {
	l = slices.Clone(l)
	slices.SortFunc(l, func(a, b api.Op) int { return strings.Compare(a.Name, b.Name) })
	return l
}

// P4.5, the second half: behind a face that is replaced, what was good is good, and has what it had.
func TestExtendedLibraries(t *testing.T) {
	m := newMaker(9)
	asked := 0
	for range 400 {
		l := m.library()
		i := m.IntN(len(l))
		after := slices.Clone(l)
		after[i] = m.changed(l[i])
		if extends, _ := face.Extends(l[i], after[i]); !extends {
			continue
		}
		// Own types that are not good show by the index of the face alone.
		if at, e := face.CheckAll(after); e != api.OK {
			if at != i {
				t.Fatalf("P4.5: the face %d: %d\n%s", at, e, show(after))
			}
			continue
		}
		for range 10 {
			asked++
			askStill(t, l, after, m.good(plain{faces: l}, 1+m.IntN(4)))
		}
	}
	if asked < 400 {
		t.Errorf("only %d", asked)
	}
}

// askStill asks whether a type is good in another library, and has the operations that it had.
func askStill(t *testing.T, before, after []api.Face, typ string) {
	t.Helper()
	if e := face.Good(after, nil, false, typ); e != api.OK {
		t.Fatalf("P4.5: %s: %d\n%s%s", typ, e, show(before), show(after))
	}
	had, e := face.OpsOf(before, nil, typ)
	if e != api.OK {
		return
	}
	for _, o := range had {
		if got, e := face.OpOf(after, nil, typ, o.Name); e != api.OK || !isSame(got, o.Sig) {
			t.Fatalf("P4.5: %s of %s: %d", o.Name, typ, e)
		}
	}
}

// P4.6: Read inverts Write, and Write inverts Read.
func TestTextsByChance(t *testing.T) {
	m := newMaker(10)
	for range 1000 {
		for _, f := range m.faces() {
			s, e := face.Write(f)
			if e != api.OK {
				t.Fatalf("Write: %d\n%s", e, show(f))
			}
			if got, e := face.Read(s); e != api.OK || !isSame(got, f) {
				t.Fatalf("P4.6: %q: %s, %d", s, show(got), e)
			}
			if s != plainText(f) {
				t.Fatalf("Write: %q, not %q", s, plainText(f))
			}
			askRead(t, m.mixed(s))
		}
	}
}

func plainText(f api.Face) string {
	s := map[uint8]string{1: "proc ", 2: "iter ", 3: "cluster "}[f.Kind] + f.Name
	if f.Param {
		s += "[t]"
	}
	l := []string{s}
	for _, n := range f.Needs {
		l = append(l, "has "+n.Op+" "+text(n.Sig))
	}
	for _, o := range f.Ops {
		l = append(l, "op "+o.Name+" "+text(o.Sig))
	}
	return lines(l...)
}

// mixed returns a text some of whose lines stand elsewhere, twice or not at all.
func (m *maker) mixed(s string) string {
	l := strings.SplitAfter(s, "\n")
	for i := range l {
		switch m.IntN(8) {
		case 0:
			l[i] = ""
		case 1:
			l[i] += l[m.IntN(len(l))]
		case 2:
			j := m.IntN(len(l))
			l[i], l[j] = l[j], l[i]
		}
	}
	return strings.Join(l, "")
}

// Uses by chance, against all names that stand where a type has one.
func TestUsesByChance(t *testing.T) {
	m := newMaker(11)
	for range 1000 {
		for _, f := range m.faces() {
			var want []string
			for _, x := range typesIn(f) {
				names, _ := kind.Names(x)
				want = append(want, names...)
			}
			slices.Sort(want)
			if got, e := face.Uses(f); e != api.OK || !slices.Equal(got, slices.Compact(want)) {
				t.Fatalf("Uses: %q, %d\n%s", got, e, show(f))
			}
		}
	}
}
