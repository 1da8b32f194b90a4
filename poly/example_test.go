package poly_test

import (
	"testing"

	"argus/api"
	"argus/poly"
)

// The modules of the chapter's examples.
const (
	set = `
cluster set[t] is new, holds where t has equal: proc(?t, ?t) returns bool
  rep = array[?t]
  proc new() returns set[?t] is return up(array[?t]$new()) end
  proc holds(s: set[?t], x: ?t) returns bool is
    var i: int := array[?t]$size(down(s));
    while 0 < i do if down(s)[i] = x then return true end; i := i - 1 end;
    return false
  end
end
`
	start = `
proc main() returns bool is var s: set[int] := set[int]$new(); return set[int]$holds(s, 1) end
`
)

func TestExamplesOfStart(t *testing.T) {
	p := programOf(t, set, start)
	for _, x := range []struct {
		name string
		can  bool
		e    api.Errno
	}{{"main", true, api.OK}, {"set", false, api.OK}, {"other", false, api.ErrInst}} {
		if can, e := poly.Start(p, x.name); can != x.can || e != x.e {
			t.Errorf("G1: Start(%s): %v, %d", x.name, can, e)
		}
	}
}

func TestExamplesOfUses(t *testing.T) {
	p := programOf(t, set, start)
	for _, x := range []struct {
		i, want string
		e       api.Errno
	}{{"main", "set[int]", api.OK}, {"set[int]", "set[int]", api.OK}, {"set", "", api.ErrInst}} {
		if l, e := poly.Uses(p, x.i); show(l) != x.want || e != x.e {
			t.Errorf("G2: Uses(%s): %q, %d", x.i, l, e)
		}
	}
}

func TestExamplesOfAllAndNames(t *testing.T) {
	p := programOf(t, set, start)
	if l := all(t, p, "main"); show(l) != "main set[int]" {
		t.Errorf("G3: %q", l)
	}
	if l, e := poly.Names(p, list("main set[int]")); show(l) != "main i1" || e != api.OK {
		t.Errorf("G4: %q, %d", l, e)
	}
	more := programOf(t, set, start, "proc i1() is end")
	if l, e := poly.Names(more, list("set[int]")); show(l) != "i2" || e != api.OK {
		t.Errorf("G4: %q, %d", l, e)
	}
	deeper := programOf(t, "proc p[t]() is p{array[?t]}() end")
	if l, e := poly.All(deeper, list("p[int]")); len(l) > 0 || e != api.ErrDeep {
		t.Errorf("G3: %q, %d", l, e)
	}
}

func TestExamplesOfMono(t *testing.T) {
	p := programOf(t, set, start)
	q := mono(t, p, "main")
	if l := namesOf(q); show(l) != "i1 main" {
		t.Errorf("G5: %q", l)
	}
	if l := core(t, q, "", "main").Slots; show(l) != "i1" {
		t.Errorf("G5: %q", l)
	}
	for _, x := range []struct {
		p    api.Program
		t    string
		want uint8
		e    api.Errno
	}{{q, "i1", api.RegRef, api.OK}, {p, "set[bool]", api.RegRef, api.OK}, {p, "null", api.RegWord, api.OK}, {p, "set", 0, api.ErrArg}} {
		if k, e := poly.KindOf(x.p, x.t); k != x.want || e != x.e {
			t.Errorf("G6: KindOf(%s): %d, %d", x.t, k, e)
		}
	}
}
