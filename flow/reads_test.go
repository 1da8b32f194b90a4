package flow_test

import (
	"math/rand/v2"
	"slices"
	"testing"

	"argus/api"
	"argus/flow"
)

// H4: what instructions read and write, whatever stands in them.
func TestReads(t *testing.T) {
	all := func(op uint8) api.Ins { return api.Ins{Op: op, To: 1, A: 2, B: 3, N: 4, Args: []int{5, 6, 5}} }
	want := map[uint8]struct {
		reads []int
		to    int
	}{
		api.InsWord: {nil, 1}, api.InsMove: {[]int{2}, 1}, api.InsLt: {[]int{2, 3}, 1}, api.InsLe: {[]int{2, 3}, 1}, api.InsEq: {[]int{2, 3}, 1}, api.InsAnd: {[]int{2, 3}, 1}, api.InsOr: {[]int{2, 3}, 1}, api.InsNot: {[]int{2}, 1},
		api.InsNew: {nil, 1}, api.InsMake: {[]int{5, 6, 5}, 1}, api.InsGet: {[]int{2}, 1}, api.InsSet: {[]int{2, 3}, -1}, api.InsTag: {[]int{2}, 1}, api.InsSize: {[]int{2}, 1}, api.InsPut: {[]int{2}, -1}, api.InsClose: {[]int{2}, -1},
		api.InsLoad: {nil, 1}, api.InsSpill: {[]int{2}, -1}, api.InsPhi: {nil, 1},
		api.TryAdd: {[]int{2, 3}, 1}, api.TrySub: {[]int{2, 3}, 1}, api.TryMul: {[]int{2, 3}, 1}, api.TryDiv: {[]int{2, 3}, 1}, api.TryMod: {[]int{2, 3}, 1},
		api.TryAddh: {[]int{2, 3}, -1}, api.TryRemh: {[]int{2}, 1}, api.TryFetch: {[]int{2, 3}, 1}, api.TryStore: {[]int{2, 3, 5, 6, 5}, -1},
	}
	for op := range 256 {
		w, isThere := want[uint8(op)]
		if !isThere {
			w.to = -1
		}
		x := all(uint8(op))
		if l, to := flow.Reads(x), flow.Writes(x); !slices.Equal(l, w.reads) || to != w.to {
			t.Errorf("H4: Op %d: %v, %d", op, l, to)
		}
		e := api.End{Kind: api.EndTry, A: 7, B: 8, Ins: x, Args: []int{9}}
		if l, to := flow.ReadsEnd(e), flow.WritesEnd(e); !slices.Equal(l, w.reads) || to != w.to {
			t.Errorf("H4: EndTry of Op %d: %v, %d", op, l, to)
		}
	}
	x := api.Ins{Op: api.InsEq, To: 2, A: 0, B: 0}
	if l := flow.Reads(x); !slices.Equal(l, []int{0, 0}) {
		t.Errorf("H4: %v", l)
	}
	x = api.Ins{Op: api.InsMake, To: 0}
	if l, to := flow.Reads(x), flow.Writes(x); len(l) > 0 || to != 0 {
		t.Errorf("H4: %v, %d", l, to)
	}
}

// H4: what ends read and write.
func TestReadsOfEnds(t *testing.T) {
	want := map[uint8]struct {
		reads []int
		to    int
	}{
		api.EndGoto: {nil, -1}, api.EndIf: {[]int{2}, -1}, api.EndReturn: {[]int{2}, -1}, api.EndSignal: {nil, -1}, api.EndTry: {[]int{7, 8}, 9},
		api.EndCall: {[]int{5, 6, 5}, 2}, api.EndOpen: {[]int{5, 6, 5}, 2}, api.EndNext: {[]int{2}, 3}, api.EndYield: {[]int{2}, -1},
	}
	for kind := range 256 {
		w, isThere := want[uint8(kind)]
		if !isThere {
			w.to = -1
		}
		e := api.End{Kind: uint8(kind), A: 2, B: 3, To: 11, Else: 12, Others: 13, Args: []int{5, 6, 5}, Ins: api.Ins{Op: api.TrySub, To: 9, A: 7, B: 8}}
		if l, to := flow.ReadsEnd(e), flow.WritesEnd(e); !slices.Equal(l, w.reads) || to != w.to {
			t.Errorf("H4: Kind %d: %v, %d", kind, l, to)
		}
	}
	if l := flow.ReadsEnd(ret(-1)); len(l) > 0 {
		t.Errorf("H4: %v", l)
	}
	if l, to := flow.ReadsEnd(call("p", -1, 3)), flow.WritesEnd(call("p", -1, 3)); len(l) > 0 || to != -1 {
		t.Errorf("H4: %v, %d", l, to)
	}
	if l := flow.ReadsEnd(ret(0)); !slices.Equal(l, []int{0}) {
		t.Errorf("H4: %v", l)
	}
}

// H4: a register is named by any number, in ends of no valid flow, too; -1 is none in EndReturn alone, since EndCall writes its A.
func TestReadsOfEndsWithAnyNumber(t *testing.T) {
	for _, n := range []int{-1 << 63, -1000000001, -7, -2, -1, 0, 1, 1200, 5000, 1<<63 - 1} {
		returned := []int{n}
		if n == -1 {
			returned = nil
		}
		for kind, want := range map[uint8]struct {
			reads []int
			to    int
		}{
			0: {nil, -1}, api.EndGoto: {nil, -1}, api.EndIf: {[]int{n}, -1}, api.EndReturn: {returned, -1}, api.EndSignal: {nil, -1},
			api.EndTry: {[]int{n, n, n}, -1}, api.EndCall: {[]int{n, 2, n}, n}, api.EndOpen: {[]int{n, 2, n}, n}, api.EndNext: {[]int{n}, n}, api.EndYield: {[]int{n}, -1}, 77: {nil, -1},
		} {
			e := api.End{Kind: kind, A: n, B: n, Args: []int{n, 2, n}, Ins: api.Ins{Op: api.TryStore, To: n, A: n, B: n, Args: []int{n}}}
			if l, to := flow.ReadsEnd(e), flow.WritesEnd(e); !slices.Equal(l, want.reads) || to != want.to {
				t.Errorf("H4: Kind %d with %d: %v, %d", kind, n, l, to)
			}
		}
		x := api.Ins{Op: api.InsMove, To: n, A: n}
		if l, to := flow.Reads(x), flow.Writes(x); !slices.Equal(l, []int{n}) || to != n {
			t.Errorf("H4: InsMove with %d: %v, %d", n, l, to)
		}
	}
}

// H4: as the second way has it.
func TestReadsByChance(t *testing.T) {
	trials(10, 100, func(r *rand.Rand, l []api.Flow) {
		for _, f := range l {
			for _, b := range changed(r, f).Blocks {
				for _, x := range append(b.Ins, b.End.Ins) {
					if got, to := flow.Reads(x), flow.Writes(x); !slices.Equal(got, plainReads(&x)) || to != plainWrites(&x) {
						t.Errorf("H4: %v, %d: %v", got, to, x)
					}
				}
				if got, to := flow.ReadsEnd(b.End), flow.WritesEnd(b.End); !slices.Equal(got, plainReadsEnd(&b.End)) || to != plainWritesEnd(&b.End) {
					t.Errorf("H4: %v, %d: %v", got, to, b.End)
				}
			}
		}
	})
}

// H5: phis, wherever they stand, and how many instructions and ends there are.
func TestPlainAndSize(t *testing.T) {
	for _, x := range []struct {
		f       api.Flow
		isPlain bool
		size    int
	}{
		{proc("p", "", block(ret(-1))), true, 1},
		{proc("p", "w", block(ret(-1), number(0, 1), put(0))), true, 3},
		{proc("p", "w", block(ret(-1)), block(ret(-1), number(0, 1))), true, 3},
		{proc("p", "w", block(goTo(1), number(0, 1)), block(ret(-1), phi(0, 0))), false, 4},
		{proc("p", "w", block(ret(-1)), block(ret(-1), phi(0))), false, 3},
		{proc("p", "w", block(ret(-1)), block(ret(-1), phi(0), phi(0), put(0))), false, 5},
		{sum(), true, 7},
	} {
		is, e := flow.Plain(x.f)
		n, g := flow.Size(x.f)
		if is != x.isPlain || n != x.size || e != api.OK || g != api.OK {
			t.Errorf("H5: %v, %d, %d, %d of %+v", is, n, e, g, x.f)
		}
	}
}

// H3, H5: errors.
func TestErrorsOfBlocks(t *testing.T) {
	f := sum()
	unwritten, wrong := sum(), sum()
	unwritten.Blocks[3].End.A = 2
	wrong.Blocks[3].End.A = 3
	for _, n := range []int{-1 << 63, -1, 0, 4, 5, 1200, 1 << 62} {
		want := api.OK
		if n < 0 || n > 4 {
			want = api.ErrArg
		}
		for what, call := range map[string]func(api.Flow, int) ([]int, api.Errno){"Behind": flow.Behind, "Ahead": flow.Ahead} {
			if l, e := call(f, n); e != want || e != api.OK && len(l) > 0 {
				t.Errorf("H3: %s(%d): %v, %d", what, n, l, e)
			}
			if l, e := call(unwritten, n); e != api.ErrRead || len(l) > 0 {
				t.Errorf("H3: %s(%d): %v, %d", what, n, l, e)
			}
			if l, e := call(wrong, n); e != api.ErrFlow || len(l) > 0 {
				t.Errorf("H3: %s(%d): %v, %d", what, n, l, e)
			}
		}
	}
	for g, want := range map[*api.Flow]api.Errno{&unwritten: api.ErrRead, &wrong: api.ErrFlow} {
		if is, e := flow.Plain(*g); is || e != want {
			t.Errorf("H5: %v, %d", is, e)
		}
		if n, e := flow.Size(*g); n != 0 || e != want {
			t.Errorf("H5: %d, %d", n, e)
		}
	}
}

// H3: blocks behind and ahead, of all ends, each once.
func TestBehindAndAhead(t *testing.T) {
	blocks := []api.Block{0: block(branch(0, 1, 1)), 1: block(goTo(0)), 2: block(ret(-1)), 3: block(signal("a")),
		4: block(caught(try(api.Ins{Op: api.TryAdd, To: 0}, 5), "b", 3, "a", 0, "c", 3, "others", 2)),
		5: block(caught(call("p", -1, 2), "others", 0)), 6: block(open("it", 1, 4)), 7: block(caught(next(1, 0, 7, 3), "a", 6, "others", 7)), 8: block(yield(0, 8))}
	f := iterator(proc("p", "wi", blocks...), 1, api.RegWord)
	behind := [][]int{{1}, {0}, {}, {}, {0, 2, 3, 5}, {0, 2}, {4}, {3, 6, 7}, {8}}
	ahead := [][]int{{1, 4, 5}, {0}, {4, 5}, {4, 7}, {6}, {4}, {7}, {7}, {8}}
	for b := range blocks {
		l, e := flow.Behind(f, b)
		m, g := flow.Ahead(f, b)
		if !slices.Equal(l, behind[b]) || !slices.Equal(m, ahead[b]) || e != api.OK || g != api.OK {
			t.Errorf("H3: %d: %v, %v, %d, %d", b, l, m, e, g)
		}
	}
}
