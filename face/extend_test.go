package face_test

import (
	"slices"
	"strings"
	"testing"

	"argus/api"
	"argus/face"
)

func askExtends(t *testing.T, what string, f, g api.Face, want bool) {
	t.Helper()
	if is, e := face.Extends(f, g); is != want || e != api.OK {
		t.Errorf("Extends, %s: %v, %d", what, is, e)
	}
}

// wideSet has one operation more than set, and stands in another order.
func wideSet() api.Face {
	f := set()
	f.Ops = append(ops("size proc(set[?t]) returns int"), f.Ops...)
	slices.Reverse(f.Ops[1:])
	return f
}

func TestExtends(t *testing.T) {
	askExtends(t, "itself", set(), set(), true)
	askExtends(t, "an operation more", set(), wideSet(), true)
	askExtends(t, "an operation less", wideSet(), set(), false)
	for what, change := range map[string]func(g *api.Face){
		"another name":        func(g *api.Face) { g.Name = "sets" },
		"another kind":        func(g *api.Face) { *g = newFace("proc set[t]", "op set proc()") },
		"no operations":       func(g *api.Face) { g.Ops = ops("other proc()") },
		"another result":      func(g *api.Face) { g.Ops[1].Sig.Result = "int" },
		"no result":           func(g *api.Face) { g.Ops[1].Sig.Result = "" },
		"another argument":    func(g *api.Face) { g.Ops[1].Sig.Args[1] = "int" },
		"an argument more":    func(g *api.Face) { g.Ops[1].Sig.Args = append(g.Ops[1].Sig.Args, "int") },
		"an argument less":    func(g *api.Face) { g.Ops[1].Sig.Args = g.Ops[1].Sig.Args[:1] },
		"a signal more":       func(g *api.Face) { g.Ops[1].Sig.Signals = []string{"a"} },
		"an iterator":         func(g *api.Face) { g.Ops[1].Sig.Iter = true },
		"an operation's name": func(g *api.Face) { g.Ops[1].Name = "has2" },
		"a need more":         func(g *api.Face) { g.Needs = append(g.Needs, need(hasLt)) },
		"another need":        func(g *api.Face) { g.Needs = needs(hasLt) },
		"a need's result":     func(g *api.Face) { g.Needs[0].Sig.Result = "" },
		"a need's argument":   func(g *api.Face) { g.Needs[0].Sig.Args[0] = "int" },
		"a need's signal":     func(g *api.Face) { g.Needs[0].Sig.Signals = []string{"a"} },
		"a need that iterates": func(g *api.Face) {
			g.Needs[0].Sig.Iter = true
		},
	} {
		g := set()
		change(&g)
		askExtends(t, what, set(), g, false)
		if what != "a need more" && what != "no operations" {
			askExtends(t, what+", the other way round", g, set(), false)
		}
	}
	less := set()
	less.Needs = nil
	askExtends(t, "a need less", set(), less, true)
	askExtends(t, "a need more", less, set(), false)
	askExtends(t, "with more needs, the other way round", newFace("proc a[t]", "has b proc()", "has c proc()", "op a proc()"), newFace("proc a[t]", "has c proc()", "op a proc()"), true)
}

func TestExtendsAsksTheParameter(t *testing.T) {
	f, g := newFace("proc a", "op a proc()"), newFace("proc a[t]", "op a proc()")
	askExtends(t, "with a parameter", f, g, false)
	askExtends(t, "without one", g, f, false)
	askExtends(t, "a procedure", f, f, true)
	askExtends(t, "an iterator", newFace("iter a", "op a iter() yields int"), newFace("iter a", "op a iter() yields int"), true)
	askExtends(t, "an iterator for a procedure", newFace("proc a", "op a proc() returns int"), newFace("iter a", "op a iter() yields int"), false)
	askExtends(t, "types that are not good", newFace("proc a", "op a proc(b[c])"), newFace("proc a", "op a proc(b[c])"), true)
}

func TestErrorsOfExtends(t *testing.T) {
	for _, wrong := range []api.Face{{}, newFace("proc a"), newFace("cluster set"), newFace("proc a", "op a proc(?t)")} {
		for _, x := range [][2]api.Face{{wrong, set()}, {set(), wrong}, {wrong, wrong}} {
			if is, e := face.Extends(x[0], x[1]); is || e != api.ErrFace {
				t.Errorf("Extends(%s, %s): %v, %d", x[0].Name, x[1].Name, is, e)
			}
		}
	}
}

func TestUses(t *testing.T) {
	for names, f := range map[string]api.Face{
		"set": set(), "": sortFace(), "tree set": more()[6], "bag": more()[0],
		"map q z a2": newFace("cluster b[t]", "has f proc(z[map[q]],int) returns array[?t]", "op c proc(record[b:map[?t],c:null]) signals(d)", "op d iter() yields oneof[e:a2]"),
		"a":          newFace("iter f", "op f iter(a[a],array[a]) yields a"),
		"r":          newFace("proc f", "op f proc() returns record[q:r]"),
		"t":          newFace("proc f[t]", "op f proc(t[?t])"),
		"c d e":      newFace("proc f[t]", "has x proc(c)", "has y proc() returns d", "op f proc(e)"),
	} {
		want := strings.Fields(names)
		slices.Sort(want)
		if got, e := face.Uses(f); e != api.OK || !slices.Equal(got, want) {
			t.Errorf("Uses: %q, not %q, %d", got, want, e)
		}
	}
	for _, wrong := range []api.Face{{}, newFace("proc a"), newFace("proc a", "op a proc(b,c[)"), newFace("proc a", "op a proc(b[?t])")} {
		if got, e := face.Uses(wrong); e != api.ErrFace || len(got) > 0 {
			t.Errorf("Uses: %q, %d", got, e)
		}
	}
}
