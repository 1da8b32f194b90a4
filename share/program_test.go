package share_test

import (
	"math/rand/v2"
	"slices"
	"testing"

	"argus/api"
	"argus/check"
	"argus/flow"
	"argus/lower"
	"argus/poly"
	"argus/sample"
	"argus/share"
	"argus/tree"
)

// flowsOf returns the flows of modules.
func flowsOf(t *testing.T, source string, starts ...string) []api.Flow {
	t.Helper()
	modules, fault := tree.Parse(source)
	if fault.Err != api.OK {
		t.Fatal(fault)
	}
	open, fault := check.Check(modules)
	if fault.Err != api.OK {
		t.Fatal(fault)
	}
	p, e := poly.Mono(open, starts)
	if e != api.OK {
		t.Fatal(e)
	}
	l, e := lower.All(p)
	if e != api.OK {
		t.Fatal(e)
	}
	return l
}

const boxes = `
cluster box[t] is new, get rep = record[v:?t]
  proc new(x: ?t) returns box[?t] is return up(record[v:?t]$make(x)) end
  proc get(b: box[?t]) returns ?t is return down(b).v end
end
proc twice[t](x: ?t) returns ?t is return box[?t]$get(box[?t]$new(x)) end
proc main(n: int) returns int is
  if twice{bool}(n < 5) then put twice{int}(n) end;
  return box[int]$get(twice{box[int]}(box[int]$new(n)))
end`

// Instances of one module are alike if the machine does not see in what their types differ.
func TestInstances(t *testing.T) {
	l := flowsOf(t, boxes, "main")
	m := must[[]api.Flow](t, l)(share.Merge(l, []string{"main"}))
	// Of box there are instances with int, bool, and box[int], and of twice with the same ones: words, and references.
	if len(l) != 10 || len(m) != 7 {
		t.Errorf("M4: %d, not 7 of %d", len(m), len(l))
	}
	for _, n := range []int{3, 7} {
		x, e := flow.Run(l, "main", []int{n}, 1000)
		y, g := flow.Run(m, "main", []int{n}, 1000)
		if e != api.OK || g != api.OK || x.Kind != api.RanDone || x.Value.N != n || !same(x, y) {
			t.Errorf("P13.4: %v, %d, not %v, %d", y, g, x, e)
		}
	}
}

// P13.4, T4: merged flows of programs by chance do the same, steps included.
func TestFlowsOfPrograms(t *testing.T) {
	t.Parallel()
	ran, gone := 0, 0
	for seed := range uint64(60) {
		r := rand.New(rand.NewPCG(seed, 78))
		open, source, fault := sample.New(r).Program()
		p, e := poly.Mono(open, []string{"deep", "main", "say"})
		if fault.Err != api.OK || e != api.OK {
			continue
		}
		l, e := lower.All(p)
		if e != api.OK {
			t.Fatalf("I1: %d of %s", e, source)
		}
		if len(l) > api.MaxFlows {
			continue
		}
		keep := []string{"main", "say", "deep"}
		m := must[[]api.Flow](t, l)(share.Merge(l, keep))
		gone += len(l) - len(m)
		if want := newPlain(l).merge(keep); !same(m, want) {
			t.Fatalf("M4: %+v, not %+v of\n%s", m, want, source)
		}
		for _, name := range keep {
			at := slices.IndexFunc(l, func(f api.Flow) bool { return f.Name == name })
			args := []int{r.IntN(6) - 1, r.IntN(2)}[:l[at].Args]
			for _, steps := range []int{r.IntN(100), 20000} {
				x, e := flow.Run(l, name, args, steps)
				y, g := flow.Run(m, name, args, steps)
				if e != api.OK || g != api.OK || !same(x, y) {
					t.Fatalf("P13.4: %s %v: %v, not %v, %d, %d of\n%s", name, args, y, x, g, e, source)
				}
				ran++
			}
		}
	}
	if ran < 200 || gone < 50 {
		t.Errorf("only %d, %d", ran, gone)
	}
	t.Log(ran, gone)
}
