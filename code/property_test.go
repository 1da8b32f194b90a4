package code_test

import (
	"bytes"
	"math/rand/v2"
	"slices"
	"testing"

	"argus/api"
	"argus/code"
	"argus/flow"
	"argus/sample"
)

// P15.1, P15.2: objects of flows are those of the second way, and lead back.
func TestFlowsByChance(t *testing.T) {
	t.Parallel()
	calls, iters, slots := 0, 0, 0
	objects(t, 1, 3000, func(r *rand.Rand, f api.Flow, o api.Object) {
		w := plainCode(f)
		if want := (api.Object{Name: f.Name, Code: w.code, Relocs: w.calls}); !same(o, want) {
			t.Fatalf("N1: %v, not %v of %+v", o, want, f)
		}
		if n := must[int](t, f)(code.Length(f)); n != len(w.code) {
			t.Fatalf("N1: %d, not %d of %+v", n, len(w.code), f)
		}
		if g := must[api.Flow](t, o)(code.Decode(o)); !same(g, f) {
			t.Fatalf("P15.2: %+v, not %+v", g, f)
		}
		calls += len(o.Relocs)
		slots += len(f.Slots)
		if f.Iter {
			iters++
		}
	})
	if calls < 1000 || iters < 300 || slots < 300 {
		t.Errorf("only %d, %d, %d", calls, iters, slots)
	}
}

// P15.3: the places, and that what stands in them does not matter.
func TestPlacesByChance(t *testing.T) {
	t.Parallel()
	objects(t, 2, 2000, func(r *rand.Rand, f api.Flow, o api.Object) {
		w := plainCode(f)
		var places []int
		for _, c := range w.calls {
			places = append(places, c.At)
		}
		head := api.Head{Iter: f.Iter, Args: f.Regs[:f.Args], Result: f.Result}
		other := numbered(o, func(int) int { return sample.Pick(r, r.IntN(65536), r.IntN(5), 65535) })
		for _, b := range [][]byte{o.Code, other} {
			if l := must[[]int](t, o)(code.Calls(b)); !slices.Equal(l, places) || !slices.IsSorted(l) {
				t.Fatalf("P15.3: %v, not %v of %v", l, places, b)
			}
			if l := must[[]int](t, o)(code.Blocks(b)); !slices.Equal(l, w.blocks) || len(l) != len(f.Blocks) || !slices.IsSorted(l) {
				t.Fatalf("P15.3: %v, not %v of %v", l, w.blocks, b)
			}
			if h := must[api.Head](t, o)(code.Front(b)); !same(h, head) {
				t.Fatalf("N3: %v, not %v of %v", h, head, b)
			}
		}
	})
}

// P15.4: names that stand somewhere among others come back by their indices.
func TestBackByChance(t *testing.T) {
	t.Parallel()
	seen := map[api.Errno]int{}
	objects(t, 3, 3000, func(r *rand.Rand, f api.Flow, o api.Object) {
		names := append(someNames(r, r.IntN(5)), routines(f)...)
		r.Shuffle(len(names), func(i, j int) { names[i], names[j] = names[j], names[i] })
		b := numbered(o, func(i int) int { return slices.Index(names, o.Relocs[i].Name) })
		if g, e := code.Back(f.Name, b, names); e != api.OK || !same(g, f) {
			t.Fatalf("P15.4: %d: %+v, not %+v", e, g, f)
		}
		// Others, which there may not be, or may not be good.
		names = someNames(r, r.IntN(20))
		name := someNames(r, 1)[0]
		b = numbered(o, func(i int) int { return r.IntN(1 + len(names) + len(names)/20) })
		if r.IntN(20) == 0 {
			b = changedBytes(r, b)
		}
		want, err := plainBack(name, b, names)
		if g, e := code.Back(name, b, names); e != err || !same(g, want) {
			t.Fatalf("N4: %q, %v, %q: %d, not %d: %+v", name, b, names, e, err, g)
		}
		seen[err]++
	})
	for _, e := range []api.Errno{api.OK, api.ErrCode, api.ErrNone, api.ErrArg} {
		if seen[e] < 50 {
			t.Errorf("only %v", seen)
		}
	}
}

// isCode asks whether what some bytes are is what the second way says.
func isCode(t *testing.T, b []byte) bool {
	t.Helper()
	f, numbers, is := plainRead(b)
	want, places := api.ErrCode, plainCode(f)
	head := api.Head{Iter: f.Iter, Args: f.Regs[:f.Args], Result: f.Result}
	if is {
		want = api.OK
	} else {
		places = plainWriter{}
	}
	calls, e := code.Calls(b)
	blocks, err := code.Blocks(b)
	front, failed := code.Front(b)
	if e != want || err != want || failed != want {
		t.Fatalf("N3: %d, %d, %d, not %d: %v", e, err, failed, want, b)
	}
	if len(calls) != len(numbers) || !slices.Equal(blocks, places.blocks) || !same(front, head) {
		t.Fatalf("N3: %v, %v, %v of %v", calls, blocks, front, b)
	}
	for i, c := range places.calls {
		if calls[i] != c.At {
			t.Fatalf("N3: %v of %v", calls, b)
		}
	}
	return is
}

// P15.1: bytes by chance, some of which are code.
func TestBytesByChance(t *testing.T) {
	t.Parallel()
	are, areNot := 0, 0
	objects(t, 4, 1500, func(r *rand.Rand, f api.Flow, o api.Object) {
		b := o.Code
		for range 12 {
			c := changedBytes(r, b)
			if r.IntN(8) == 0 {
				c = withoutBlock(r, b)
			}
			if isCode(t, c) {
				b = c
				are++
			} else {
				areNot++
			}
		}
	})
	if are < 1000 || areNot < 5000 {
		t.Errorf("only %d, %d", are, areNot)
	}
}

// P15.1, P15.2: objects by chance, some of which are those of flows.
func TestObjectsByChance(t *testing.T) {
	t.Parallel()
	are, areNot := 0, 0
	objects(t, 5, 2000, func(r *rand.Rand, f api.Flow, o api.Object) {
		for range 8 {
			x := changedObject(r, o)
			want, is := plainDecode(x)
			g, e := code.Decode(x)
			if is != (e == api.OK) || e != api.OK && e != api.ErrCode || is && !same(g, want) || !is && !same(g, api.Flow{}) {
				t.Fatalf("N2: %+v, %d, not %+v of %v", g, e, want, x)
			}
			if !is {
				areNot++
				continue
			}
			if back := must[api.Object](t, g)(code.Encode(g)); !same(back, x) {
				t.Fatalf("P15.2: %v, not %v", back, x)
			}
			o = x
			are++
		}
	})
	if are < 1000 || areNot < 5000 {
		t.Errorf("only %d, %d", are, areNot)
	}
}

// P15.2: flows have the same object exactly if they are the same.
func TestFlowsThatDiffer(t *testing.T) {
	t.Parallel()
	differ, alike := 0, 0
	objects(t, 6, 3000, func(r *rand.Rand, f api.Flow, o api.Object) {
		for range 6 {
			g := sample.Changed(r, f)
			other, e := code.Encode(g)
			if e != api.OK {
				continue
			}
			if same(o, other) != same(f, g) {
				t.Fatalf("P15.2: %v, %v: %+v, %+v", o, other, f, g)
			}
			if same(f, g) {
				alike++
			} else {
				differ++
			}
		}
	})
	if differ < 1000 || alike < 50 {
		t.Errorf("only %d, %d", differ, alike)
	}
}

// P15.5: no code is a beginning of another one.
func TestBeginnings(t *testing.T) {
	t.Parallel()
	objects(t, 7, 150, func(r *rand.Rand, f api.Flow, o api.Object) {
		for n := range len(o.Code) {
			if isCode(t, o.Code[:n]) {
				t.Fatalf("P15.5: %v of %v", o.Code[:n], o.Code)
			}
		}
		for range 20 {
			if b := append(bytes.Clone(o.Code), someByte(r)); isCode(t, b) {
				t.Fatalf("P15.5: %v, %v", o.Code, b)
			}
		}
	})
	o := must[api.Object](t, busy())(code.Encode(busy()))
	if b := slices.Concat(o.Code, o.Code); isCode(t, b) {
		t.Errorf("P15.5: %v", b)
	}
}

// torn changes each byte of an object's code to each other one, and returns how many of these are objects of flows.
func torn(t *testing.T, f api.Flow, o api.Object) int {
	t.Helper()
	n := 0
	for at, was := range o.Code {
		x := copied(o)
		for b := range 256 {
			x.Code[at] = byte(b)
			if byte(b) == was {
				continue
			}
			g, e := code.Decode(x)
			if e != api.OK && e != api.ErrCode || e == api.OK && (same(g, f) || flow.Check(g) != api.OK) || e != api.OK && !same(g, api.Flow{}) {
				t.Fatalf("P15.5: %d, %d: %+v, %d", at, b, g, e)
			}
			if want, is := plainDecode(x); is != (e == api.OK) || is && !same(g, want) {
				t.Fatalf("N2: %d, %d: %+v, %d, not %+v", at, b, g, e, want)
			}
			if e == api.OK {
				n++
			}
		}
	}
	return n
}

// P15.5: if one byte is another one there is another flow, or none.
func TestTornBytes(t *testing.T) {
	t.Parallel()
	for _, f := range []api.Flow{sum(), caller(), busy()} {
		if n := torn(t, f, must[api.Object](t, f)(code.Encode(f))); n < 500 {
			t.Errorf("P15.5: only %d", n)
		}
	}
	small := 0
	objects(t, 8, 100, func(r *rand.Rand, f api.Flow, o api.Object) {
		if len(o.Code) < 120 {
			torn(t, f, o)
			small++
		}
	})
	if small < 5 {
		t.Errorf("only %d", small)
	}
}

// P15.5: all bytes up to some length, with few values, hold code where the second way says so: 13 bytes have the least one.
func TestShortBytes(t *testing.T) {
	t.Parallel()
	least := bytesOf(0, 0, 0, 0, 0, 0, 0, 0, 1, 0, 3, 255, 255)
	if !isCode(t, least) {
		t.Fatal("N1: the least code is none")
	}
	is := 0
	for i := range least {
		for j := range i {
			for a := range 256 {
				for _, b := range []int{0, 1, 3, 255} {
					c := bytes.Clone(least)
					c[i], c[j] = byte(a), byte(b)
					if isCode(t, c) {
						is++
					}
				}
			}
		}
	}
	if is < 10 {
		t.Errorf("only %d", is)
	}
}
