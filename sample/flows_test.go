package sample_test

import (
	"math/rand/v2"
	"reflect"
	"testing"

	"argus/api"
	"argus/flow"
	"argus/sample"
)

func newFlows(seed uint64, phis, slots, wild bool) *sample.Flows {
	return &sample.Flows{Chance: rand.New(rand.NewPCG(seed, 2)), Phis: phis, Slots: slots, Wild: wild}
}

// Flows are valid, have what was asked for, and are the same whenever chance is.
func TestFlows(t *testing.T) {
	for _, x := range []struct{ phis, slots, wild bool }{{}, {phis: true}, {slots: true}, {phis: true, slots: true, wild: true}} {
		isPlain, hasSlots, ends, ways := true, false, map[uint8]int{}, map[uint8]int{}
		for seed := range uint64(300) {
			l := newFlows(seed, x.phis, x.slots, x.wild).List()
			if i, e := flow.CheckAll(l); e != api.OK {
				t.Fatalf("%d: %d, %d: %+v", seed, i, e, l)
			}
			for _, f := range l {
				is, _ := flow.Plain(f)
				isPlain = isPlain && is
				hasSlots = hasSlots || len(f.Slots) > 0
				for _, b := range f.Blocks {
					ends[b.End.Kind]++
				}
			}
			r, e := flow.Run(l, l[0].Name, make([]int, l[0].Args), 300)
			if e != api.OK && e != api.ErrStuck {
				t.Fatalf("%d: %d: %+v", seed, e, l)
			}
			ways[r.Kind]++
			if again := newFlows(seed, x.phis, x.slots, x.wild).List(); !reflect.DeepEqual(l, again) {
				t.Fatalf("%d: %+v\nis not\n%+v", seed, again, l)
			}
		}
		if isPlain == x.phis || hasSlots != x.slots {
			t.Errorf("%v: %v, %v", x, isPlain, hasSlots)
		}
		for kind := api.EndGoto; kind <= api.EndYield; kind++ {
			if ends[kind] < 50 {
				t.Errorf("%v: %v", x, ends)
			}
		}
		if ways[api.RanDone] < 50 || ways[api.RanSignal] < 50 || ways[api.RanSpent] < 30 || !x.wild && ways[0] > 30 {
			t.Errorf("%v: %v", x, ways)
		}
	}
}
