package sample_test

import (
	"math/rand/v2"
	"reflect"
	"slices"
	"testing"

	"argus/api"
	"argus/flow"
	"argus/sample"
)

func newGraphs(seed uint64, phis bool) *sample.Graphs {
	return &sample.Graphs{Chance: rand.New(rand.NewPCG(seed, 3)), More: int(seed % 4), Phis: phis, Most: 3}
}

// Flows are valid, have the ways that were asked for, and are the same whenever chance is.
func TestGraphs(t *testing.T) {
	most, ends := 0, map[uint8]int{}
	for seed := range uint64(600) {
		m := newGraphs(seed, seed%2 == 0)
		ways := m.Ways(1 + int(seed%20))
		f := m.Flow(ways)
		if e := flow.Check(f); e != api.OK {
			t.Fatalf("%d: %d: %+v", seed, e, f)
		}
		if is, _ := flow.Plain(f); !is && seed%2 > 0 {
			t.Fatalf("%d: %+v", seed, f)
		}
		for b, l := range ways {
			got, _ := flow.Behind(f, b)
			most = max(most, len(l))
			if !slices.Equal(got, slices.Compact(slices.Sorted(slices.Values(l)))) || len(l) > 0 && f.Blocks[b].End.To != l[0] {
				t.Fatalf("%d: %v, not %v", seed, got, l)
			}
			ends[f.Blocks[b].End.Kind]++
		}
		again := newGraphs(seed, seed%2 == 0)
		if g := again.Flow(again.Ways(len(ways))); !reflect.DeepEqual(f, g) {
			t.Fatalf("%d: %+v, not %+v", seed, g, f)
		}
	}
	if most != sample.MostTargets || len(ends) != 5 {
		t.Errorf("%d, %v", most, ends)
	}
}

// Changed leaves its argument, and many errors come out.
func TestChanged(t *testing.T) {
	seen := map[api.Errno]int{}
	for seed := range uint64(2000) {
		m := newGraphs(seed, true)
		f := m.Flow(m.Ways(1 + m.IntN(6)))
		before, _ := flow.Write(f)
		g := sample.Changed(m, f)
		if after, _ := flow.Write(f); after != before {
			t.Fatalf("%d: %s, not %s", seed, after, before)
		}
		seen[flow.Check(g)]++
	}
	if seen[api.OK] < 20 || seen[api.ErrFlow] < 500 {
		t.Errorf("%v", seen)
	}
	if f := sample.Changed(newGraphs(0, false), api.Flow{}); len(f.Blocks) > 0 {
		t.Errorf("%+v", f)
	}
}
