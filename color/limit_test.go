package color_test

import (
	"slices"
	"testing"

	"argus/api"
	"argus/color"
	"argus/flow"
)

// row returns a procedure that writes some words, one after the other, and then puts all of them, in blocks with some
// instructions each.
func row(words, most int) api.Flow {
	f := proc("p", "")
	var l []api.Ins
	for reg := range words {
		f.Regs = append(f.Regs, api.RegWord)
		l = append(l, number(reg, reg))
	}
	for reg := range words {
		l = append(l, put(reg))
	}
	for part := range slices.Chunk(l, most) {
		f.Blocks = append(f.Blocks, block(goTo(len(f.Blocks)+1), part...))
	}
	f.Blocks = append(f.Blocks, block(ret(-1)))
	return f
}

// padded returns a flow with more blocks, to which no way leads.
func padded(f api.Flow, blocks int) api.Flow {
	f = copiedFlow(f)
	for len(f.Blocks) < blocks {
		f.Blocks = append(f.Blocks, block(goTo(len(f.Blocks))))
	}
	return f
}

// doesSame compares a run of a procedure with one of what it became.
func doesSame(t *testing.T, f, g api.Flow, args ...int) {
	t.Helper()
	x, e := flow.Run([]api.Flow{f}, f.Name, args, 50000)
	y, err := flow.Run([]api.Flow{g}, g.Name, args, 90000)
	x.Steps, y.Steps = 0, 0
	if e != api.OK || err != api.OK || x.Kind == api.RanSpent || !same(x, y) {
		t.Errorf("P14.4: %v, %d, not %v, %d", y, err, x, e)
	}
}

// As many registers as there may be are live at once.
func TestMostRegisters(t *testing.T) {
	t.Parallel()
	f := row(api.MaxRegs, api.MaxIns)
	n := must[int](t, f)(color.Pressure(f, api.RegWord))
	crowd := must[[]int](t, f)(color.Crowd(f, api.RegWord))
	if is := must[bool](t, f)(color.CheckCrowd(f, api.RegWord, crowd)); n != api.MaxRegs || len(crowd) != n || !is {
		t.Errorf("N1, N3: %d, %d, %v", n, len(crowd), is)
	}
	if is := must[bool](t, f)(color.Meet(f, 0, api.MaxRegs-1)); !is {
		t.Error("N1: the first one and the last one")
	}
	c := must[[]int](t, f)(color.Color(f))
	if n := must[int](t, f)(color.Needs(f, c, api.RegWord)); n != api.MaxRegs {
		t.Errorf("N2: %d", n)
	}
	g := must[api.Flow](t, f)(color.Allocate(f, api.MaxRegs, 8))
	if n := must[int](t, g)(color.Used(g, api.RegWord)); n != api.MaxRegs {
		t.Errorf("N5: %d", n)
	}
	doesSame(t, f, g)
	// What is loaded would be registers more.
	for _, most := range []int{api.MaxIns, 100} {
		if g, e := color.Spill(row(api.MaxRegs, most), api.MaxRegs-10, 8); e != api.ErrLimit || !same(g, api.Flow{}) {
			t.Errorf("N4: %d", e)
		}
	}
	// More than there may be are written.
	f.Blocks[len(f.Blocks)-1].Ins = []api.Ins{number(0, 0)}
	for _, words := range []int{8, 5000} {
		if g, e := color.Allocate(f, words, 8); e != api.ErrLimit || !same(g, api.Flow{}) {
			t.Errorf("N5: %d", e)
		}
	}
}

// N4: slots, of which there may be 60.
func TestMostSlots(t *testing.T) {
	t.Parallel()
	for _, n := range []int{9, 30, 66} {
		f := row(n, 20)
		g := must[api.Flow](t, f)(color.Spill(f, 8, 8))
		if len(g.Slots) < n-8 || len(g.Slots) > min(n-6, api.MaxSlots) {
			t.Errorf("N4: %d slots for %d", len(g.Slots), n)
		}
		if n, m := pressures(t, formOf(t, g)); n > 8 || m > 0 {
			t.Errorf("N4: %d, %d", n, m)
		}
		doesSame(t, f, g)
		doesSame(t, f, must[api.Flow](t, f)(color.Allocate(f, 8, 8)))
	}
	// The last one that can be kept has as many slots as there may be.
	last := 60
	for n := 60; ; n++ {
		g, e := color.Spill(row(n, 20), 8, 8)
		if e != api.OK {
			if e != api.ErrLimit {
				t.Errorf("N4: %d", e)
			}
			break
		}
		last = len(g.Slots)
	}
	if last != api.MaxSlots {
		t.Errorf("N4: %d slots", last)
	}
	for _, n := range []int{69, 300} {
		f := row(n, 20)
		for _, do := range []func(api.Flow, int, int) (api.Flow, api.Errno){color.Spill, color.Allocate} {
			if g, e := do(f, 8, 8); e != api.ErrLimit || !same(g, api.Flow{}) {
				t.Errorf("N4: %d, %d: %+v", n, e, g)
			}
			if _, e := do(f, 300, 8); e != api.OK {
				t.Errorf("N4: %d, %d", n, e)
			}
		}
	}
}

// N4: slots of both kinds count together.
func TestMostSlotsOfBothKinds(t *testing.T) {
	t.Parallel()
	for _, x := range []struct {
		words, refs int
		want        api.Errno
	}{{38, 38, api.OK}, {39, 38, api.ErrLimit}, {38, 39, api.ErrLimit}, {60, 60, api.ErrLimit}, {8, 68, api.OK}} {
		f := row(x.words, 20)
		last := len(f.Blocks) - 1
		write, read := refs(x.words, x.refs, 0)
		for range x.refs {
			f.Regs = append(f.Regs, api.RegRef)
		}
		f.Blocks[last].End = goTo(last + 1)
		for part := range slices.Chunk(append(write, read...), 40) {
			f.Blocks = append(f.Blocks, block(goTo(len(f.Blocks)+1), part...))
		}
		f.Blocks = append(f.Blocks, block(ret(-1)))
		g, e := color.Spill(f, 8, 8)
		if e != x.want || e != api.OK && !same(g, api.Flow{}) || e == api.OK && len(g.Slots) != api.MaxSlots {
			t.Errorf("N4: %d, %d: %d, not %d: %d slots", x.words, x.refs, e, x.want, len(g.Slots))
		}
		if e == api.OK {
			doesSame(t, f, g)
		}
	}
}

// Slots are shared by what is not live at one time.
func TestSharedSlots(t *testing.T) {
	t.Parallel()
	f := proc("p", "")
	for range 10 {
		var first, last []api.Ins
		for range 20 {
			first, last = append(first, number(len(f.Regs), len(f.Regs))), append(last, put(len(f.Regs)))
			f.Regs = append(f.Regs, api.RegWord)
		}
		n := len(f.Blocks)
		f.Blocks = append(f.Blocks, block(goTo(n+1), first...), block(goTo(n+2), last...))
	}
	f.Blocks = append(f.Blocks, block(ret(-1)))
	g := must[api.Flow](t, f)(color.Spill(f, 8, 8))
	if len(g.Slots) < 12 || len(g.Slots) > 14 {
		t.Errorf("N4: %d slots", len(g.Slots))
	}
	doesSame(t, f, g)
}

// N4: a block has at most 200 instructions.
func TestMostInstructions(t *testing.T) {
	t.Parallel()
	for _, n := range []int{20, 60, 90} {
		f := row(n, 2*n)
		for len(f.Blocks[0].Ins) < api.MaxIns {
			f.Blocks[0].Ins = slices.Insert(f.Blocks[0].Ins, n, put(0))
		}
		if g, e := color.Spill(f, 8, 8); e != api.ErrLimit || !same(g, api.Flow{}) {
			t.Errorf("N4: %d, %d: %+v", n, e, g)
		}
	}
	// The last one that is not too long has as many instructions as there may be.
	f := row(20, 40)
	last := 0
	for {
		g, e := color.Spill(f, 8, 8)
		if e != api.OK {
			if e != api.ErrLimit || last != api.MaxIns {
				t.Errorf("N4: %d, %d instructions", e, last)
			}
			break
		}
		doesSame(t, f, g)
		last = len(g.Blocks[0].Ins)
		f.Blocks[0].Ins = append(f.Blocks[0].Ins, put(19))
	}
}

// looping returns a procedure that moves some words, from the register 3 on, as long as its argument, which is counted down, is
// not 0; then it puts them. The moves may use the register 2.
func looping(words int, moves []api.Ins) api.Flow {
	f := with(proc("p", "www"), 1, 0)
	first, last := []api.Ins{number(1, -1)}, []api.Ins(nil)
	for reg := 3; reg < 3+words; reg++ {
		f.Regs = append(f.Regs, api.RegWord)
		first, last = append(first, number(reg, reg)), append(last, put(reg))
	}
	add := func(l []api.Ins) {
		for part := range slices.Chunk(l, 180) {
			f.Blocks = append(f.Blocks, block(goTo(len(f.Blocks)+1), part...))
		}
	}
	add(first)
	head := len(f.Blocks)
	f.Blocks = append(f.Blocks, block(goTo(head+1)))
	add(moves)
	// The end of the loop leads to two blocks, and its head is entered from two.
	f.Blocks[len(f.Blocks)-1].End = try(ins(api.TryAdd, 0, 0, 1), len(f.Blocks))
	f.Blocks = append(f.Blocks, block(branch(0, head, len(f.Blocks)+1)))
	add(last)
	f.Blocks = append(f.Blocks, block(ret(-1)))
	return f
}

// swaps returns moves that let the words of some pairs change places.
func swaps(pairs int) []api.Ins {
	var l []api.Ins
	for i := range pairs {
		a := 3 + 2*i
		l = append(l, move(2, a), move(a, a+1), move(a+1, 2))
	}
	return l
}

// circle returns moves that let each of some words go to the place of the one before.
func circle(words int) []api.Ins {
	l := []api.Ins{move(2, 3)}
	for i := range words - 1 {
		l = append(l, move(3+i, 4+i))
	}
	return append(l, move(2+words, 2))
}

// N5: moves that do not fit where they belong are in blocks of their own, as many as are needed.
func TestManyMoves(t *testing.T) {
	t.Parallel()
	for _, n := range []int{1, 49, 50, 51, 80, 98} {
		for _, f := range []api.Flow{looping(2*n, swaps(n)), looping(2*n, circle(2*n))} {
			g := must[api.Flow](t, f)(color.Allocate(f, 2*n+10, 8))
			if u := must[int](t, g)(color.Used(g, api.RegWord)); u > 2*n+3 {
				t.Errorf("N5: %d: %d registers", n, u)
			}
			for _, times := range []int{1, 2, 5} {
				doesSame(t, f, g, times)
			}
		}
	}
	f := looping(196, swaps(98))
	if g := must[api.Flow](t, f)(color.Allocate(f, 200, 8)); len(g.Blocks) != len(f.Blocks)+2 {
		t.Errorf("N5: %d blocks, not %d", len(g.Blocks), len(f.Blocks)+2)
	}
}

// N5: there are at most 1200 blocks.
func TestMostBlocks(t *testing.T) {
	t.Parallel()
	f := looping(6, swaps(3))
	n := len(f.Blocks)
	g := must[api.Flow](t, f)(color.Allocate(f, 8, 8))
	more := len(g.Blocks) - n
	if more != 1 {
		t.Fatalf("N5: %d blocks more", more)
	}
	g = must[api.Flow](t, f)(color.Allocate(padded(f, api.MaxBlocks-more), 8, 8))
	if e := flow.Check(g); e != api.OK || len(g.Blocks) != api.MaxBlocks {
		t.Errorf("N5: %d, %d blocks", e, len(g.Blocks))
	}
	doesSame(t, f, g, 4)
	if g, e := color.Allocate(padded(f, api.MaxBlocks-more+1), 8, 8); e != api.ErrLimit || !same(g, api.Flow{}) {
		t.Errorf("N5: %d", e)
	}
	// What is straight would have a block more.
	f = with(words(1, 1, block(branch(0, 0, 1)), block(ret(-1))), 1, 0)
	if _, e := color.Allocate(padded(f, api.MaxBlocks-1), 8, 8); e != api.OK {
		t.Errorf("N5: %d", e)
	}
	if g, e := color.Allocate(padded(f, api.MaxBlocks), 8, 8); e != api.ErrLimit || !same(g, api.Flow{}) {
		t.Errorf("N5: %d", e)
	}
}

// What the end of a block writes where ways meet is spilled in a block on the way.
func TestMostBlocksWithSlots(t *testing.T) {
	t.Parallel()
	f := words(0, 20, block(api.End{}), block(goTo(2), number(18, 7)), block(goTo(3), number(19, 5)), block(ret(-1)))
	f.Blocks[0].End = caught(try(ins(api.TryAdd, 18, 0, 1), 2), "others", 1)
	for reg := range 18 {
		f.Blocks[0].Ins = append(f.Blocks[0].Ins, number(reg, reg))
	}
	for reg := range 20 {
		f.Blocks[3].Ins = append(f.Blocks[3].Ins, put(reg))
		if reg != 18 {
			f.Blocks[3].Ins = append(f.Blocks[3].Ins, put(reg), put(reg))
		}
	}
	g := must[api.Flow](t, f)(color.Spill(f, 8, 8))
	doesSame(t, f, g)
	more := len(g.Blocks) - len(f.Blocks)
	if more != 1 {
		t.Fatalf("the test is wrong: %d blocks more", more)
	}
	if g, e := color.Spill(padded(f, api.MaxBlocks-1), 8, 8); e != api.OK || len(g.Blocks) != api.MaxBlocks || flow.Check(g) != api.OK {
		t.Errorf("N4: %d, %d blocks", e, len(g.Blocks))
	}
	if g, e := color.Spill(padded(f, api.MaxBlocks), 8, 8); e != api.ErrLimit || !same(g, api.Flow{}) {
		t.Errorf("N4: %d", e)
	}
}

// All functions end for the largest flows.
func TestLargestFlows(t *testing.T) {
	t.Parallel()
	const live = 70
	f := row(live, api.MaxIns)
	f.Blocks = f.Blocks[:1]
	f.Blocks[0].Ins = f.Blocks[0].Ins[:live]
	for len(f.Blocks) < api.MaxBlocks-1 {
		n := len(f.Blocks)
		f.Blocks = append(f.Blocks, block(branch(n%live, n+1, max(n-n%40, 1))))
		for i := range api.MaxIns {
			f.Blocks[n].Ins = append(f.Blocks[n].Ins, put((n+i)%live))
		}
	}
	f.Blocks[0].End = goTo(1)
	f.Blocks = append(f.Blocks, block(ret(-1)))
	c := must[[]int](t, f)(color.Color(f))
	if n := must[int](t, f)(color.Needs(f, c, api.RegWord)); n != live {
		t.Errorf("N2: %d", n)
	}
	if _, e := color.Spill(f, live-20, 8); e != api.ErrLimit {
		t.Errorf("N4: %d", e)
	}
	if _, e := color.Allocate(f, live, 8); e != api.OK {
		t.Errorf("N5: %d", e)
	}
}
