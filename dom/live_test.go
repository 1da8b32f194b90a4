package dom_test

import (
	"fmt"
	"slices"
	"testing"

	"argus/api"
	"argus/dom"
)

func phi(to int, args ...int) api.Ins { return api.Ins{Op: api.InsPhi, To: to, Args: args} }

func move(to, a int) api.Ins { return api.Ins{Op: api.InsMove, To: to, A: a} }

func add(to, a, b int) api.Ins { return api.Ins{Op: api.TryAdd, To: to, A: a, B: b} }

// words returns a flow with four words as arguments.
func words(regs int, blocks ...api.Block) api.Flow {
	f := proc("p", "wwwwwwww"[:regs], blocks...)
	f.Args = min(regs, 4)
	return f
}

// lives are flows with what is live at the beginnings of their blocks, and behind their instructions.
var lives = []struct {
	name    string
	f       api.Flow
	in, out [][]int
}{
	{"read by an instruction", words(2, block(ret(-1), put(1))), [][]int{{1}}, [][]int{{}}},
	{"read by the end", words(2, block(branch(1, 1, 1)), block(ret(-1))), [][]int{{1}, {}}, [][]int{{1}, {}}},
	{"read, then written", words(2, block(ret(-1), move(1, 1), put(1))), [][]int{{1}}, [][]int{{}}},
	{"written, then read", words(2, block(ret(-1), number(1, 0), put(1))), [][]int{{}}, [][]int{{}}},
	{"written behind", words(2, block(goTo(1), put(0)), block(ret(-1), number(1, 0), put(1))), [][]int{{0}, {}}, [][]int{{}, {}}},
	{"the end reads and writes it", words(2, block(try(add(1, 1, 0), 1)), block(ret(-1), put(1))), [][]int{{0, 1}, {1}}, [][]int{{0, 1}, {}}},
	{"the end writes it", words(2, block(try(add(1, 0, 0), 1)), block(ret(-1), put(1))), [][]int{{0}, {1}}, [][]int{{0}, {}}},
	{"the end writes it on one way", words(2, block(caught(try(add(1, 0, 0), 1), "overflow", 2)), block(ret(-1), put(1)), block(ret(-1), put(1))), [][]int{{0, 1}, {1}, {1}}, [][]int{{0, 1}, {}, {}}},
	{"the end leads there by a When, too", words(2, block(caught(try(add(1, 0, 0), 1), "overflow", 1)), block(ret(-1), put(1))), [][]int{{0, 1}, {1}}, [][]int{{0, 1}, {}}},
	{"the end leads there by Others, too", words(2, block(caught(try(add(1, 0, 0), 1), "others", 1)), block(ret(-1), put(1))), [][]int{{0, 1}, {1}}, [][]int{{0, 1}, {}}},
	{"a call writes it", words(2, block(call("q", 1, 1, 0)), block(ret(-1), put(1))), [][]int{{0}, {1}}, [][]int{{0}, {}}},
	{"a call writes nothing", words(2, block(call("q", -1, 1, 0)), block(ret(-1), put(1))), [][]int{{0, 1}, {1}}, [][]int{{0, 1}, {}}},
	{"the arguments of a call", words(4, block(call("q", -1, 1, 3, 0, 3)), block(ret(-1))), [][]int{{0, 3}, {}}, [][]int{{0, 3}, {}}},
	{"in a loop", words(2, block(goTo(1)), block(branch(0, 2, 3)), block(goTo(1), put(1)), block(ret(-1))), [][]int{{0, 1}, {0, 1}, {0, 1}, {}}, [][]int{{0, 1}, {0, 1}, {0, 1}, {}}},
	{"in a circle with the first block", words(2, block(branch(0, 0, 1), put(1)), block(ret(-1))), [][]int{{0, 1}, {}}, [][]int{{0, 1}, {}}},
	{"in blocks that do not count", words(2, block(goTo(2)), block(branch(0, 1, 2), put(1)), block(ret(-1))), [][]int{{}, {}, {}}, [][]int{{}, {}, {}}},
	{"the Arg of a phi", words(3, block(goTo(1)), block(ret(-1), phi(0, 1), put(0))), [][]int{{1}, {}}, [][]int{{1}, {}}},
	{"the Arg of a phi for another block", words(4, block(branch(0, 1, 2)), block(goTo(3)), block(goTo(3)), block(ret(-1), phi(0, 1, 2), put(3))), [][]int{{0, 1, 2, 3}, {1, 3}, {2, 3}, {3}}, [][]int{{0, 1, 2, 3}, {1, 3}, {2, 3}, {}}},
	{"Args beside blocks that do not count", words(4, block(goTo(2)), block(goTo(3)), block(goTo(3)), block(ret(-1), phi(0, 1, 2), put(3))), [][]int{{2, 3}, {}, {2, 3}, {3}}, [][]int{{2, 3}, {}, {2, 3}, {}}},
	{"the end writes the Arg of a phi", words(2, block(try(add(1, 0, 0), 1)), block(ret(-1), phi(0, 1), put(0))), [][]int{{0}, {}}, [][]int{{0}, {}}},
	{"phis that exchange", words(2, block(goTo(1)), block(goTo(1), phi(0, 0, 1), phi(1, 1, 0))), [][]int{{0, 1}, {}}, [][]int{{0, 1}, {0, 1}}},
	{"a phi of itself", words(2, block(goTo(1)), block(goTo(1), phi(0, 1, 0))), [][]int{{1}, {}}, [][]int{{1}, {0}}},
	{"a phi writes what is read", words(2, block(goTo(1)), block(ret(-1), phi(1, 0), put(1))), [][]int{{0}, {}}, [][]int{{0}, {}}},
	{"what is returned", with(words(2, block(ret(1))), 2, 1), [][]int{{1}}, [][]int{{1}}},
	{"what is yielded", iterator(words(2, block(yield(1, 1)), block(ret(-1))), 2, 1), [][]int{{1}, {}}, [][]int{{1}, {}}},
	{"iterations", proc("p", "iw", block(open("q", 0, 1)), block(next(0, 1, 2, 3)), block(goTo(1), put(1)), block(ret(-1), api.Ins{Op: api.InsClose, A: 0})),
		[][]int{{}, {0}, {0, 1}, {0}}, [][]int{{}, {0}, {0}, {}}},
	{"a value that is not yielded", proc("p", "iw", block(open("q", 0, 1), number(1, 0)), block(next(0, 1, 2, 3)), block(goTo(1)), block(ret(-1), put(1))),
		[][]int{{}, {0, 1}, {0, 1}, {1}}, [][]int{{1}, {0, 1}, {0, 1}, {}}},
	{"a value that may be yielded", proc("p", "iw", block(open("q", 0, 1), number(1, 0)), block(next(0, 1, 2, 2)), block(ret(-1), put(1))),
		[][]int{{}, {0, 1}, {1}}, [][]int{{1}, {0, 1}, {}}},
}

// J6, J7: flows with a name.
func TestLive(t *testing.T) {
	for _, x := range lives {
		in, out, e := dom.Live(x.f)
		if e != api.OK || !same(in, x.in) || !same(out, x.out) {
			t.Errorf("J6: %s: %v, %v, %d", x.name, in, out, e)
		}
		for b := range x.f.Blocks {
			for reg := range x.f.Regs {
				way, is, e := dom.Witness(x.f, b, reg)
				if e != api.OK || is != slices.Contains(x.in[b], reg) || !is && len(way) > 0 {
					t.Errorf("J7: %s: %d, %d: %v, %v, %d", x.name, b, reg, way, is, e)
				}
				if accepts, e := dom.CheckWitness(x.f, b, reg, way); e != api.OK || accepts != is {
					t.Errorf("J7: %s: %d, %d: %v: %v, %d", x.name, b, reg, way, accepts, e)
				}
			}
		}
	}
}

// J6: slots are no registers.
func TestSlotsAreNotLive(t *testing.T) {
	f := words(4, block(goTo(1), api.Ins{Op: api.InsSpill, A: 2, N: 1}), block(ret(-1), api.Ins{Op: api.InsLoad, To: 1, N: 1}, put(1)))
	f.Slots = []uint8{1, 1}
	in, out, e := dom.Live(f)
	if e != api.OK || !same(in, [][]int{{2}, {}}) || !same(out, [][]int{{}, {}}) {
		t.Errorf("J6: %v, %v, %d", in, out, e)
	}
}

// J7: ways that are proofs, and others.
func TestCheckWitness(t *testing.T) {
	// 0 goes to 1; 1 to 1, 2 or 3; 2 to 1; 4 does not count, and goes to 1.
	f := words(5,
		block(goTo(1)),
		block(caught(try(add(4, 0, 0), 2), "overflow", 1, "others", 3), phi(3, 0, 1, 2, 3), put(0)),
		block(goTo(1), phi(1, 1), number(2, 0), put(2)),
		block(ret(-1), put(1), number(0, 0), put(0)),
		block(goTo(1), put(0), put(1)))
	for _, x := range []struct {
		block, register int
		way             []int
		want            bool
	}{
		{0, 0, []int{0, 1}, true},
		{0, 0, []int{0}, false},
		{0, 0, nil, false},
		{0, 0, []int{1}, false},
		{1, 0, []int{1}, true},
		{1, 0, []int{1, 1}, true},
		{1, 0, []int{1, 1, 2, 1}, true},
		{1, 0, []int{1, 2}, false},
		{1, 0, []int{1, 3}, false},
		{0, 0, []int{0, 2, 1}, false},
		{0, 0, []int{0, 4, 1}, false},
		// Phis: 1 is read on the way from 1 to 1, 2 on the way from 2, and 3 on the one from 4, which does not count.
		{1, 1, []int{1, 1}, true},
		{0, 1, []int{0, 1, 1}, true},
		{0, 1, []int{0, 1, 3}, true},
		{0, 1, []int{0, 1}, false},
		{2, 2, []int{2, 1}, false},
		{1, 2, []int{1, 2, 1}, false},
		{2, 2, []int{2}, false},
		{4, 3, []int{4, 1}, false},
		{4, 0, []int{4}, false},
		{4, 1, []int{4}, false},
		// A phi of the block 2 reads 1, and writes it.
		{1, 1, []int{1, 2}, true},
		{2, 1, []int{2}, false},
		{2, 1, []int{2, 1, 3}, false},
		{1, 1, []int{1, 2, 1, 3}, false},
		// What the phi of the block 1 writes.
		{0, 3, []int{0, 1}, false},
		{1, 3, []int{1, 1}, false},
		// What the end writes on the way to the block 2 alone.
		{1, 4, []int{1, 2}, false},
		// Numbers of any sort.
		{0, 0, []int{0, -1}, false},
		{0, 0, []int{0, 5}, false},
		{0, 0, []int{-1, 0}, false},
		{0, 0, []int{0, 1 << 62, 1}, false},
	} {
		if is, e := dom.CheckWitness(f, x.block, x.register, x.way); is != x.want || e != api.OK {
			t.Errorf("J7: %v: %v, %d", x, is, e)
		}
	}
}

// J7: what the end writes on the way counts, but not where it leads there in another way, too.
func TestWitnessOverEnds(t *testing.T) {
	f := words(4,
		block(caught(try(add(3, 0, 0), 1), "overflow", 2)),
		block(caught(try(add(3, 0, 0), 2), "overflow", 2)),
		block(ret(-1), put(3)))
	for way, want := range map[[3]int]bool{{0, 1, 2}: false, {0, 2, -1}: true, {1, 2, -1}: true} {
		l := way[:]
		if l[2] == -1 {
			l = l[:2]
		}
		if is, e := dom.CheckWitness(f, l[0], 3, l); is != want || e != api.OK {
			t.Errorf("J7: %v: %v, %d", l, is, e)
		}
	}
}

// J7: ways may be long, but not longer than 1200.
func TestLongWitnesses(t *testing.T) {
	f := words(4, block(goTo(1)), block(goTo(1), put(1)))
	for n, want := range map[int]bool{1: false, 2: true, 1199: true, 1200: true, 1201: false, 5000: false} {
		way := append([]int{0}, slices.Repeat([]int{1}, n-1)...)
		if is, e := dom.CheckWitness(f, 0, 1, way); is != want || e != api.OK {
			t.Errorf("J7: %d: %v, %d", n, is, e)
		}
	}
}

// J7: blocks and registers that there are not.
func TestErrorsOfWitnesses(t *testing.T) {
	f := sum()
	for _, x := range []struct {
		block, register int
		want            api.Errno
	}{{0, 0, 0}, {4, 2, 0}, {5, 0, api.ErrArg}, {-1, 0, api.ErrArg}, {0, 3, api.ErrArg}, {0, -1, api.ErrArg}, {1 << 62, -1 << 63, api.ErrArg}, {1 << 62, 0, api.ErrArg}, {0, -1 << 63, api.ErrArg}} {
		if way, is, e := dom.Witness(f, x.block, x.register); e != x.want || e != api.OK && (is || len(way) > 0) {
			t.Errorf("J7: %v: %v, %v, %d", x, way, is, e)
		}
		for _, way := range [][]int{nil, {0, 1}, {4}} {
			is, e := dom.CheckWitness(f, x.block, x.register, way)
			if want := x.want == 0 && fmt.Sprint(x.block, x.register, way) == "0 0 [0 1]"; e != x.want || is != want && x.block == 0 {
				t.Errorf("J7: %v, %v: %v, %d", x, way, is, e)
			}
		}
	}
	f.Blocks[3].End.A = 2
	if way, is, e := dom.Witness(f, 9, 9); e != api.ErrRead || is || len(way) > 0 {
		t.Errorf("J7: %v, %v, %d", way, is, e)
	}
	if is, e := dom.CheckWitness(f, 9, 9, nil); e != api.ErrRead || is {
		t.Errorf("J7: %v, %d", is, e)
	}
}
