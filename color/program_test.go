package color_test

import (
	"math/rand/v2"
	"slices"
	"testing"

	"argus/api"
	"argus/check"
	"argus/color"
	"argus/flow"
	"argus/lower"
	"argus/opt"
	"argus/poly"
	"argus/sample"
	"argus/ssa"
	"argus/tree"
)

// flowsOf returns the flows of modules.
func flowsOf(t *testing.T, source string, starts ...string) []api.Flow {
	t.Helper()
	modules, fault := tree.Parse(source)
	if fault.Err != api.OK {
		t.Fatal(fault)
	}
	open, fault := check.Check(modules)
	if fault.Err != api.OK {
		t.Fatal(fault)
	}
	p, e := poly.Mono(open, starts)
	if e != api.OK {
		t.Fatal(e)
	}
	l, e := lower.All(p)
	if e != api.OK {
		t.Fatal(e)
	}
	return l
}

// allocated returns a list in which all flows have 8 registers of each kind, and one more.
func allocated(t *testing.T, l []api.Flow) []api.Flow {
	t.Helper()
	out := slices.Clone(l)
	for i, f := range l {
		g := must[api.Flow](t, f)(color.Allocate(f, 8, 8))
		if must[int](t, g)(color.Used(g, api.RegWord)) > 9 || must[int](t, g)(color.Used(g, api.RegRef)) > 9 {
			t.Fatalf("N5: %+v of %+v", g, f)
		}
		out[i] = g
	}
	if at, e := flow.CheckAll(out); e != api.OK {
		t.Fatalf("N5: %d: %+v", e, out[at])
	}
	return out
}

// A program with more variables than there are registers, some of which are changed in loops over an iterator that has as many.
const crowd = `
iter each(n: int) yields int is
  var a: int := 1; var b: int := 2; var c: int := 3; var d: int := 4; var e: int := 5; var f: int := 6;
  while 0 < n do yield a; n := n - 1; var t: int := a; a := b; b := c; c := d; d := e; e := f; f := t + n end
end
proc main(n: int) returns int is
  var a: int := n; var b: int := 2; var c: int := 3; var d: int := 4; var e: int := 5; var f: int := 6; var g: int := 7; var h: int := 8;
  var l: array[int] := array[int]$new();
  for x: int in each(n) do
    var t: int := a; a := b; b := c; c := d; d := e; e := f; f := g; g := h; h := t + x;
    begin array[int]$addh(l, h) except when overflow: put 0 end
  end;
  for y: int in each(3) do begin put l[y] except when bounds: put h end end;
  put a; put b; put c; put d; put e; put f; put g; put h;
  return (a + (b * c)) - (d + (e - g))
end`

func TestCrowdedProgram(t *testing.T) {
	l := flowsOf(t, crowd, "main")
	m := allocated(t, l)
	if !slices.ContainsFunc(m, func(f api.Flow) bool { return len(f.Slots) > 0 }) {
		t.Error("N4: no slots")
	}
	for _, n := range []int{0, 1, 2, 7, 30, -1, api.MaxInt} {
		x, e := flow.Run(l, "main", []int{n}, 20000)
		y, err := flow.Run(m, "main", []int{n}, 40000)
		if x.Steps, y.Steps = 0, 0; e != api.OK || err != api.OK || !same(x, y) || n < 100 && x.Kind == api.RanSpent {
			t.Errorf("P14.4: %d: %v, %d, not %v, %d", n, y, err, x, e)
		}
	}
}

// P14.4, T5: flows of programs by chance do the same with few registers, also if they were improved before.
func TestFlowsOfPrograms(t *testing.T) {
	t.Parallel()
	ran := 0
	for seed := range uint64(40) {
		r := rand.New(rand.NewPCG(seed, 79))
		open, source, fault := sample.New(r).Program()
		p, e := poly.Mono(open, []string{"deep", "main", "say"})
		if fault.Err != api.OK || e != api.OK {
			continue
		}
		l, e := lower.All(p)
		if e != api.OK {
			t.Fatalf("I1: %d of %s", e, source)
		}
		if len(l) > api.MaxFlows {
			continue
		}
		improved := slices.Clone(l)
		for i, f := range l {
			improved[i] = must[api.Flow](t, f)(ssa.Out(must[api.Flow](t, f)(opt.Opt(formOf(t, f)))))
		}
		for _, m := range [][]api.Flow{allocated(t, l), allocated(t, improved)} {
			for _, name := range []string{"main", "say", "deep"} {
				at := slices.IndexFunc(l, func(f api.Flow) bool { return f.Name == name })
				args := []int{r.IntN(6) - 1, r.IntN(2)}[:l[at].Args]
				x, e := flow.Run(l, name, args, 20000)
				y, g := flow.Run(m, name, args, 40000)
				if x.Kind == api.RanSpent || y.Kind == api.RanSpent {
					continue
				}
				if x.Steps, y.Steps = 0, 0; e != api.OK || g != api.OK || !same(x, y) {
					t.Fatalf("P14.4: %s %v: %v, not %v, %d, %d of\n%s", name, args, y, x, g, e, source)
				}
				ran++
			}
		}
	}
	if ran < 100 {
		t.Errorf("only %d", ran)
	}
}
