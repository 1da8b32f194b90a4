package face_test

import (
	"slices"
	"strings"
	"testing"

	"argus/api"
	"argus/face"
	"argus/kind"
)

// The errors of the faces come first, then those of the needs, then those of the type.
func TestOrderOfErrors(t *testing.T) {
	ask := func(what string, s scope, typ string, want api.Errno) {
		for name, f := range askers() {
			if empty, e := f(s, typ); e != want || !empty {
				t.Errorf("%s, %s, %q: %d, not %d, empty: %v", name, what, typ, e, want, empty)
			}
		}
	}
	for what, x := range noLibraries() {
		ask(what, scope{x.faces, nil}, "int", x.e)
		for _, list := range noNeeds() {
			ask(what, scope{x.faces, list}, "!", x.e)
		}
	}
	for what, list := range noNeeds() {
		for _, typ := range []string{"int", "!", "nowhere", "?t"} {
			ask(what, scope{more(), list}, typ, api.ErrFace)
		}
	}
	for typ, want := range map[string]api.Errno{"!": api.ErrForm, wide(101): api.ErrLimit, nested(7, "int"): api.ErrLimit, "array[nowhere]": api.ErrNone, "set": api.ErrNone, "set[set[int]]": api.ErrFit} {
		ask("the type", scope{more(), nil}, typ, want)
		ask("the type", scope{more(), needs(hasLt)}, typ, want)
	}
}

func TestNumbersOfErrors(t *testing.T) {
	_, twice := face.CheckAll([]api.Face{set(), set()})
	_, none := face.Find(nil, "a")
	_, noOp := face.OpOf(nil, nil, "int", "a")
	_, tooLong := face.SigOf(more(), nil, "each", nested(6, "int"))
	_, noForm := face.Read("")
	got := []api.Errno{face.Check(set()), tooLong, noForm, none, twice, noOp, face.Good(more(), nil, false, "set[set[int]]"), face.Check(api.Face{}), face.Good(nil, nil, false, "?t")}
	if want := []api.Errno{0, 2, 4, 5, 6, 40, 41, 42, 43}; !slices.Equal(got, want) {
		t.Errorf("%d", got)
	}
}

// all calls all functions that return slices, with arguments that have room behind them.
func all(faces []api.Face, list []api.Need, typ string) []any {
	var l []any
	for _, f := range faces {
		x, _ := face.Find(faces, f.Name)
		y, _ := face.Uses(f)
		s, _ := face.Write(f)
		z, _ := face.Read(s)
		l = append(l, x, y, z)
	}
	ops, _ := face.OpsOf(faces, list, typ)
	l = append(l, ops)
	for _, o := range ops {
		s, _ := face.OpOf(faces, list, typ, o.Name)
		l = append(l, s)
	}
	for _, name := range []string{"sort", "each", "main"} {
		s, _ := face.SigOf(faces, list, name, typ)
		none, _ := face.SigOf(faces, list, name, "")
		l = append(l, s, none)
	}
	return l
}

// R3: results are new memory.
func TestResultsAreNewMemory(t *testing.T) {
	for _, typ := range []string{"int", "bool", "null", "?t", "coin", "set[int]", "bag[?t]", "array[coin]", "record[a:int,b:?t]", "oneof[a:int,b:null]"} {
		faces, list := more(), needs(hasEqual, hasLt, "z iter(int) yields bool signals(a,b)")
		results := all(faces, list, typ)
		apart(t, typ, append(results, faces, list)...)
		again := all(faces, list, typ)
		apart(t, typ+", twice", append(results, again...)...)
	}
}

// R3: arguments are not changed, and R4: what was returned does not change what comes.
func TestArgumentsStay(t *testing.T) {
	faces, list := more(), needs(hasEqual, hasLt)
	for i := range faces {
		slices.Reverse(faces[i].Ops)
	}
	shown := show(faces) + show(list)
	want := ""
	for range 3 {
		got := ""
		for _, typ := range []string{"int", "?t", "coin", "set[int]", "bag[?t]", "array[?t]", "record[a:int,b:?t]"} {
			results := all(faces, list, typ)
			for _, x := range results {
				got += show(x)
				spoil(x)
			}
			face.CheckAll(faces)
			face.Good(faces, list, true, typ)
			face.Fits(faces, list, list, typ)
			face.Extends(faces[0], faces[1])
		}
		if want == "" {
			want = got
		}
		if got != want {
			t.Error("R4: the results are others")
		}
		if show(faces)+show(list) != shown {
			t.Error("R3: the arguments were changed")
		}
	}
}

// R3: what lies in memory behind an argument stays too.
func TestMemoryBehindArgumentsStays(t *testing.T) {
	behind := func(l ...string) ([]string, []string) { return l[:len(l)-1], l[len(l)-1:] }
	args, afterArgs := behind("coin", "coin", "behind")
	signals, afterSignals := behind("a", "b", "behind")
	x := api.Sig{Args: args, Result: "bool", Signals: signals}
	list := append(make([]api.Need, 0, 4), api.Need{Op: "equal", Sig: x})
	faces := append(make([]api.Face, 0, 9), more()...)
	faces[1].Ops = append(make([]api.Op, 0, 9), api.Op{Name: "equal", Sig: x})
	all(faces, list, "coin")
	all(faces, list, "?t")
	face.Extends(faces[1], faces[1])
	face.Fits(faces, list, list, "coin")
	if afterArgs[0] != "behind" || afterSignals[0] != "behind" || list[:2][1].Op != "" || faces[:8][7].Name != "" || faces[1].Ops[:2][1].Name != "" {
		t.Error("R3: memory was changed")
	}
}

// spoil overwrites what a result contains.
func spoil(x any) {
	switch x := x.(type) {
	case []string:
		clear(x)
	case api.Sig:
		clear(x.Args)
		clear(x.Signals)
	case []api.Op:
		for _, o := range x {
			spoil(o.Sig)
		}
		clear(x)
	case api.Face:
		for _, n := range x.Needs {
			spoil(n.Sig)
		}
		clear(x.Needs)
		spoil(x.Ops)
	}
}

// R3: nil slices and empty slices are the same.
func TestEmptySlices(t *testing.T) {
	fill := func(s api.Sig) api.Sig {
		s.Args, s.Signals = append([]string{}, s.Args...), append([]string{}, s.Signals...)
		return s
	}
	var faces []api.Face
	for _, f := range more() {
		f.Needs = append([]api.Need{}, f.Needs...)
		for i, n := range f.Needs {
			f.Needs[i].Sig = fill(n.Sig)
		}
		for i, o := range f.Ops {
			f.Ops[i].Sig = fill(o.Sig)
		}
		faces = append(faces, f)
	}
	for i, f := range more() {
		a, _ := face.Extends(f, faces[i])
		b, _ := face.Extends(faces[i], f)
		s, _ := face.Write(faces[i])
		r, _ := face.Write(f)
		if !a || !b || s != r {
			t.Errorf("R3: %s: %v, %v", f.Name, a, b)
		}
	}
	for _, typ := range []string{"int", "set[coin]", "tree[int]", "array[?t]"} {
		if a, b := face.Good(faces, nil, true, typ), face.Good(more(), []api.Need{}, true, typ); a != b {
			t.Errorf("R3: %s: %d, %d", typ, a, b)
		}
		if !isSame(showAll(all(faces, []api.Need{}, typ)), showAll(all(more(), nil, typ))) {
			t.Errorf("R3: %s", typ)
		}
	}
}

func showAll(l []any) string {
	var b strings.Builder
	for _, x := range l {
		b.WriteString(show(x))
	}
	return b.String()
}

// R1: fields may have any values.
func TestArgumentsOfAnySort(t *testing.T) {
	m := newMaker(31)
	word := func() string {
		return pick(m, "", "a", "end", "[", "]", "a[", "?t", "?", ",", "int", "array[int]", "\xff\x00", "record[", "proc a\n", strings.Repeat("a[", 200), strings.Repeat("[", 10000), "set[int]", "equal", "set")
	}
	words := func() []string {
		var l []string
		for range m.IntN(9) {
			l = append(l, word())
		}
		return l
	}
	anySig := func() api.Sig { return api.Sig{Iter: m.IntN(2) == 0, Args: words(), Result: word(), Signals: words()} }
	anyFace := func() api.Face {
		f := api.Face{Name: word(), Kind: uint8(m.IntN(5)), Param: m.IntN(2) == 0}
		for range m.IntN(6) {
			f.Needs = append(f.Needs, api.Need{Op: word(), Sig: anySig()})
		}
		for range m.IntN(25) {
			f.Ops = append(f.Ops, api.Op{Name: word(), Sig: anySig()})
		}
		return f
	}
	for range 400 {
		f, g := anyFace(), anyFace()
		faces := pick(m, []api.Face{f, g}, more())
		typ, name := word(), word()
		face.Check(f)
		face.CheckAll(faces)
		face.Find(faces, name)
		face.Good(faces, g.Needs, f.Param, typ)
		face.OpsOf(faces, g.Needs, typ)
		face.OpOf(faces, g.Needs, typ, name)
		face.OpsOf(faces, nil, typ)
		face.OpOf(faces, nil, typ, name)
		face.SigOf(faces, nil, pick(m, "sort", "each", "main", name), typ)
		face.Fits(faces, g.Needs, f.Needs, typ)
		face.Fits(faces, nil, nil, typ)
		face.Extends(f, g)
		face.Uses(f)
		face.Write(f)
		face.Read(word() + " " + word() + "\n" + word())
	}
}

// Faces with as much as there can be are asked in the end.
func TestTheLargestLibrary(t *testing.T) {
	var l []api.Face
	for _, name := range letters("k", 20) {
		f := api.Face{Name: name, Kind: api.ModCluster, Param: true}
		for _, op := range letters("n", 4) {
			f.Needs = append(f.Needs, api.Need{Op: op, Sig: sig("proc(?t,?t,?t,?t,?t,?t) returns bool")})
			own := name + "[?t]"
			f.Ops = append(f.Ops, api.Op{Name: op, Sig: sig("proc(" + strings.TrimSuffix(strings.Repeat(own+",", 6), ",") + ") returns bool")})
		}
		for _, op := range letters("p", 16) {
			deep := strings.Repeat(name+"[", 5) + "?t" + strings.Repeat("]", 5)
			f.Ops = append(f.Ops, api.Op{Name: op, Sig: sig("iter(" + strings.TrimSuffix(strings.Repeat(deep+",", 6), ",") + ") yields " + deep)})
		}
		l = append(l, f)
	}
	askAll(t, "the largest", l, 0, api.OK)
	if e := face.Good(l, l[0].Needs, true, "kt[ks[kr[kq[kp[?t]]]]]"); e != api.OK {
		t.Errorf("Good: %d", e)
	}
	if e := face.Good(l, nil, false, "kt[ks[kr[kq[kp[int]]]]]"); e != api.ErrFit {
		t.Errorf("Good: %d", e)
	}
}

// R4: calls that run at once do not meet.
func TestCallsAtOnce(t *testing.T) {
	faces, list := more(), needs(hasEqual, hasLt)
	types := []string{"int", "?t", "coin", "set[int]", "bag[?t]", "tree[?t]", "nowhere", "array[set[?t]]"}
	want := map[string]string{}
	for _, typ := range types {
		want[typ] = showAll(all(faces, list, typ))
	}
	done := make(chan string)
	for range 8 {
		go func() {
			bad := ""
			for _, typ := range types {
				if showAll(all(faces, list, typ)) != want[typ] {
					bad = typ
				}
			}
			done <- bad
		}()
	}
	for range 8 {
		if bad := <-done; bad != "" {
			t.Errorf("R4: %s", bad)
		}
	}
}

// T2: operations of types that programs have are such that what they take and give is of good types, whatever is put in.
func TestSignaturesAreOfTypes(t *testing.T) {
	m := newMaker(32)
	for range 100 {
		p := plain{faces: m.library(), needs: m.needs(2)}
		p.param = len(p.needs) > 0
		l, _ := face.OpsOf(p.faces, p.needs, m.good(p, 4))
		for _, x := range typesIn(api.Face{Ops: l}) {
			if e := kind.Check(x); e != api.OK {
				t.Fatalf("T2: %s: %d", x, e)
			}
		}
	}
}
