package code_test

import (
	"bytes"
	"math/rand/v2"
	"slices"
	"testing"

	"argus/api"
	"argus/code"
	"argus/color"
	"argus/flow"
	"argus/lower"
	"argus/poly"
	"argus/sample"
)

// namesOf returns the names of all flows, and so those of all routines that they call.
func namesOf(l []api.Flow) []string {
	var names []string
	for _, f := range l {
		names = append(names, f.Name)
	}
	return names
}

// throughBytes returns a list of flows as code, with the numbers of all routines, and back.
func throughBytes(t *testing.T, l []api.Flow) []api.Flow {
	t.Helper()
	names := namesOf(l)
	out := make([]api.Flow, len(l))
	for i, f := range l {
		o := must[api.Object](t, f)(code.Encode(f))
		if !bytes.Equal(o.Code, plainCode(f).code) {
			t.Fatalf("N1: %+v", f)
		}
		b := numbered(o, func(i int) int { return slices.Index(names, o.Relocs[i].Name) })
		out[i] = must[api.Flow](t, o)(code.Back(f.Name, b, names))
	}
	return out
}

// P15.4: flows of programs by chance come back, as they were lowered and with few registers, and runs are the same.
func TestFlowsOfPrograms(t *testing.T) {
	t.Parallel()
	ran := 0
	for seed := range uint64(40) {
		r := rand.New(rand.NewPCG(seed, 91))
		open, source, fault := sample.New(r).Program()
		p, e := poly.Mono(open, []string{"deep", "main", "say"})
		if fault.Err != api.OK || e != api.OK {
			continue
		}
		l, e := lower.All(p)
		if e != api.OK || len(l) > api.MaxFlows {
			continue
		}
		few := slices.Clone(l)
		for i, f := range l {
			few[i] = must[api.Flow](t, f)(color.Allocate(f, 8, 8))
		}
		for _, l := range [][]api.Flow{l, few} {
			m := throughBytes(t, l)
			if !same(m, l) {
				t.Fatalf("P15.4: %+v, not %+v of\n%s", m, l, source)
			}
			for _, name := range []string{"main", "say", "deep"} {
				at := slices.IndexFunc(l, func(f api.Flow) bool { return f.Name == name })
				args := []int{r.IntN(6) - 1, r.IntN(2)}[:l[at].Args]
				x, e := flow.Run(l, name, args, 20000)
				y, err := flow.Run(m, name, args, 20000)
				if e != err || !same(x, y) {
					t.Fatalf("P15.4: %s %v: %v, not %v", name, args, y, x)
				}
				ran++
			}
		}
	}
	if ran < 100 {
		t.Errorf("only %d", ran)
	}
}
