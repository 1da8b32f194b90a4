package link_test

import (
	"math/rand/v2"
	"slices"
	"testing"

	"argus/api"
	"argus/code"
	"argus/flow"
	"argus/link"
	"argus/lower"
	"argus/poly"
	"argus/sample"
)

// objectsOf returns the objects of flows.
func objectsOf(t *testing.T, l []api.Flow) []api.Object {
	t.Helper()
	var objects []api.Object
	for _, f := range l {
		objects = append(objects, must[api.Object](t, f)(code.Encode(f)))
	}
	return objects
}

// throughImage returns the flows of an image, once its bytes were written and read.
func throughImage(t *testing.T, i api.Image) []api.Flow {
	t.Helper()
	b := must[[]byte](t, i.Names)(link.Write(i))
	i = must[api.Image](t, i.Names)(link.Read(b))
	var l []api.Flow
	for n, name := range i.Names {
		part := must[[]byte](t, name)(link.Part(i, n))
		l = append(l, must[api.Flow](t, name)(code.Back(name, part, i.Names)))
	}
	return l
}

// P16.4: the flows of programs by chance come back out of an image, and runs are the same.
func TestFlowsOfPrograms(t *testing.T) {
	t.Parallel()
	ran, fewer := 0, 0
	for seed := range uint64(40) {
		r := rand.New(rand.NewPCG(seed, 92))
		open, source, fault := sample.New(r).Program()
		p, e := poly.Mono(open, []string{"deep", "main", "say"})
		if fault.Err != api.OK || e != api.OK {
			continue
		}
		l, e := lower.All(p)
		if e != api.OK || len(l) > api.MaxFlows {
			continue
		}
		objects := shuffled(r, objectsOf(t, l))
		for _, start := range []string{"main", "say", "deep"} {
			i := must[api.Image](t, source)(link.Link(objects, []string{start}))
			m := throughImage(t, i)
			if at, e := flow.CheckAll(m); e != api.OK {
				t.Fatalf("P16.4: %d, %d of\n%s", at, e, source)
			}
			for _, f := range m {
				if at := slices.IndexFunc(l, func(g api.Flow) bool { return g.Name == f.Name }); !same(f, l[at]) {
					t.Fatalf("P16.4: %+v, not %+v of\n%s", f, l[at], source)
				}
			}
			at := slices.IndexFunc(m, func(f api.Flow) bool { return f.Name == start })
			args := []int{r.IntN(6) - 1, r.IntN(2)}[:m[at].Args]
			x, e := flow.Run(l, start, args, 20000)
			y, err := flow.Run(m, start, args, 20000)
			if e != err || !same(x, y) {
				t.Fatalf("P16.4: %s %v: %v, not %v of\n%s", start, args, y, x, source)
			}
			ran++
			if len(m) < len(l) {
				fewer++
			}
		}
	}
	if ran < 60 || fewer < 30 {
		t.Errorf("only %d, %d", ran, fewer)
	}
}
