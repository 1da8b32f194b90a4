package color_test

import (
	"slices"
	"testing"

	"argus/api"
	"argus/color"
	"argus/flow"
)

// lots returns instructions that write some words, from one register on, and those that put them. They are put often, so that it
// is cheaper to keep something else in a slot.
func lots(first, n int) (write, read []api.Ins) {
	for reg := first; reg < first+n; reg++ {
		write, read = append(write, number(reg, reg)), append(read, slices.Repeat([]api.Ins{put(reg)}, 9)...)
	}
	return write, read
}

// refs returns instructions that make some arrays, from one register on, and those that look at them.
func refs(first, n, to int) (write, read []api.Ins) {
	for reg := first; reg < first+n; reg++ {
		size := api.Ins{Op: api.InsSize, To: to, A: reg}
		write, read = append(write, api.Ins{Op: api.InsNew, To: reg}), append(read, size, size, put(to))
	}
	return write, read
}

// spills returns how often a register is kept in a slot.
func spills(f api.Flow, reg int) int {
	n := 0
	for _, b := range f.Blocks {
		for _, x := range b.Ins {
			if x.Op == api.InsSpill && x.A == reg {
				n++
			}
		}
	}
	return n
}

// askSlots looks at what becomes of the first flow of a list if there are just 8 registers of each kind; a register is to be spilled
// at some places.
func askSlots(t *testing.T, name string, l []api.Flow, i, reg, times int, args ...int) {
	t.Helper()
	g := must[api.Flow](t, l[i])(color.Spill(l[i], 8, 8))
	if n := spills(g, reg); n != times {
		t.Errorf("N4: %s: %d is spilled %d times, not %d: %+v", name, reg, n, times, g)
	}
	if n, m := pressures(t, formOf(t, g)); n > 8 || m > 8 {
		t.Errorf("N4: %s: %d, %d", name, n, m)
	}
	h := must[api.Flow](t, l[i])(color.Allocate(l[i], 8, 8))
	if countOf(h, api.RegWord) > 9 || countOf(h, api.RegRef) > 9 {
		t.Errorf("N5: %s: %+v", name, h)
	}
	for _, made := range []api.Flow{g, h} {
		all := replaced(l, i, made)
		x, e := flow.Run(l, l[0].Name, args, 5000)
		y, err := flow.Run(all, l[0].Name, args, 9000)
		if x.Steps, y.Steps = 0, 0; e != api.OK || err != api.OK || x.Kind == api.RanSpent || !same(x, y) {
			t.Errorf("P14.4: %s: %v: %v, %d, not %v, %d", name, args, y, err, x, e)
		}
	}
}

// An argument is kept in a slot, also if ways lead back to where it is written.
func TestSlotsOfArguments(t *testing.T) {
	write, read := lots(2, 8)
	f := words(2, 11, block(goTo(1), write...), block(goTo(2), read...), block(ret(-1), put(0), put(1)))
	askSlots(t, "an argument", []api.Flow{f}, 0, 0, 1, 5, 6)
	// Each time round the argument 0 is one less.
	f = words(2, 11, block(goTo(1), write...), block(goTo(2), read...), block(try(ins(api.TryAdd, 0, 0, 10), 3), number(10, -1), put(0), put(1)), block(branch(0, 0, 4)), block(ret(-1)))
	for _, n := range []int{1, 2, 4} {
		askSlots(t, "a way back", []api.Flow{f}, 0, 1, 1, n, 6)
	}
}

// What an end writes is not there where it signals: a handler finds what was there before.
func TestSlotsOfHandlers(t *testing.T) {
	write, read := lots(3, 8)
	f := words(2, 11,
		block(caught(try(ins(api.TryAdd, 2, 0, 1), 1), "overflow", 2), append([]api.Ins{number(2, 7)}, write...)...),
		block(goTo(3), number(0, 1)),
		block(goTo(3), number(0, 2)),
		block(goTo(4), read...),
		block(ret(-1), put(2), put(0)))
	askSlots(t, "it is done", []api.Flow{f}, 0, 2, 2, 5, 6)
	askSlots(t, "it signals", []api.Flow{f}, 0, 2, 2, api.MaxInt, 6)
	// The same if ways meet behind the end, so that it is spilled between both.
	f.Blocks[1].End, f.Blocks[0].End.To = goTo(3), 3
	askSlots(t, "ways meet", []api.Flow{f}, 0, 2, 2, 5, 6)
	askSlots(t, "it signals where ways meet", []api.Flow{f}, 0, 2, 2, api.MaxInt, 6)
	// And if it leads to its To in another way, too.
	f.Blocks[0].End = caught(f.Blocks[0].End, "x", 3)
	f.Blocks[0].End.Whens[0].To = 3
	askSlots(t, "an end that leads twice to its To", []api.Flow{f}, 0, 2, 2, 5, 6)
	askSlots(t, "one that signals", []api.Flow{f}, 0, 2, 2, api.MaxInt, 6)
}

// What calls and iterators give is kept in slots, and what they get; an iterator keeps its slots between two times.
func TestSlotsOfCalls(t *testing.T) {
	write, read := lots(3, 8)
	add := with(proc("q", "www", block(try(ins(api.TryAdd, 2, 0, 1), 1)), block(ret(2))), 2, api.RegWord)
	f := words(2, 11, block(caught(call("q", 2, 1, 0, 1), "failure", 3)), block(goTo(2), write...), block(goTo(3), read...), block(goTo(4), put(2)), block(ret(-1)))
	f.Blocks[0].End.Whens[0].To = 4
	askSlots(t, "a call", []api.Flow{f, add}, 0, 2, 1, 5, 6)

	write, read = lots(1, 8)
	count := iterator(proc("z", "wwwwwwwwwww",
		block(goTo(1), append(write, number(9, -1))...),
		block(yield(0, 2), read...),
		block(try(ins(api.TryAdd, 0, 0, 9), 3)),
		block(branch(0, 1, 4)),
		block(ret(-1))), 1, api.RegWord)
	write, read = lots(3, 8)
	f = words(1, 11,
		block(open("z", 1, 1, 0)),
		block(next(1, 2, 2, 5)),
		block(goTo(3), write...),
		block(goTo(4), read...),
		block(goTo(1), put(2)),
		block(ret(-1)))
	f.Regs[1] = api.RegIter
	askSlots(t, "a loop over an iterator", []api.Flow{f, count}, 0, 2, 1, 3)
	askSlots(t, "an iterator", []api.Flow{f, count}, 1, 9, 1, 3)
}

// References are kept in slots, beside words: six of them are made fields at once.
func TestSlotsOfReferences(t *testing.T) {
	write, read := refs(2, 14, 0)
	fields := api.Ins{Op: api.InsMake, To: 1, N: 2, Args: []int{2, 3, 4, 5, 6, 7}}
	f := words(1, 16, block(goTo(1), write...), block(goTo(2), append([]api.Ins{fields}, read...)...), block(goTo(3), slices.Insert(read, 4, fields)...),
		block(ret(-1), api.Ins{Op: api.InsTag, To: 0, A: 1}, put(0), api.Ins{Op: api.InsGet, To: 15, A: 1, N: 5}, ins(api.InsEq, 0, 15, 7), put(0), ins(api.InsEq, 0, 15, 6), put(0)))
	for reg := 1; reg < 16; reg++ {
		f.Regs[reg] = api.RegRef
	}
	g := must[api.Flow](t, f)(color.Spill(f, 8, 8))
	if len(g.Slots) < 6 || slices.Contains(g.Slots, api.RegWord) {
		t.Errorf("N4: %v", g.Slots)
	}
	for _, reg := range []int{2, 15} {
		askSlots(t, "references", []api.Flow{f}, 0, reg, spills(g, reg), 4)
	}
}

// What is read several times in a block is loaded once, if there is room for it, and what is not read any more is not spilled.
func TestSlotsAreSpared(t *testing.T) {
	write, read := lots(1, 8)
	f := words(1, 9, block(goTo(1), write...), block(goTo(2), read...), block(ret(-1), put(0), put(0), number(0, 1), put(0), put(0), ins(api.InsLt, 0, 0, 0), put(0)))
	g := must[api.Flow](t, f)(color.Spill(f, 8, 8))
	want := append([]api.Ins{{Op: api.InsLoad, To: 0}}, f.Blocks[2].Ins...)
	if len(g.Slots) != 1 || !same(g.Blocks[2].Ins, want) || spills(g, 0) != 1 {
		t.Errorf("N4: %+v", g)
	}
}

// What was written is not spilled if its last reader is the end of the block, or nothing reads it.
func TestNothingIsSpilledInVain(t *testing.T) {
	write, read := lots(3, 8)
	f := words(2, 11,
		block(caught(try(ins(api.TryAdd, 2, 0, 1), 2), "overflow", 1)),
		block(branch(2, 2, 3), ins(api.InsLt, 2, 0, 1)),
		block(goTo(4), number(2, 7)),
		block(goTo(4), number(2, 8)),
		block(goTo(5), write...),
		block(goTo(6), read...),
		block(ret(-1), put(2), put(0), put(0), put(1), put(1)))
	f.Blocks[0].End.To = 2
	g := must[api.Flow](t, f)(color.Spill(f, 8, 8))
	if n := spills(copiedFlow(api.Flow{Blocks: g.Blocks[:2]}), 2); spills(g, 2) != 2 || n != 0 || len(g.Blocks) != len(f.Blocks) {
		t.Errorf("N4: %d: %+v", n, g)
	}
	askSlots(t, "what is read late", []api.Flow{f}, 0, 2, 2, 5, 6)

	// What the end of the block 0 reads is not what its To reads.
	f.Blocks[0] = block(caught(try(ins(api.TryAdd, 2, 2, 1), 4), "overflow", 1), number(2, 5))
	askSlots(t, "what an end reads and writes", []api.Flow{f}, 0, 2, 3, 5, 6)
}

// Two registers that share a slot do not spoil it for each other: what is not read any more is not spilled.
func TestSharedSlotsStay(t *testing.T) {
	write, read := lots(3, 8)
	f := words(0, 11,
		block(goTo(1), slices.Concat([]api.Ins{number(2, 77)}, write)...),
		block(goTo(2), read...),
		block(goTo(3), slices.Concat([]api.Ins{put(2), number(2, 78), put(2), number(1, 79)}, write)...),
		block(goTo(4), read...),
		block(ret(-1), put(1)))
	g := must[api.Flow](t, f)(color.Spill(f, 8, 8))
	if len(g.Slots) != 1 || spills(g, 1) != 1 || spills(g, 2) != 1 {
		t.Errorf("N4: %+v", g)
	}
	doesSame(t, f, g)
}

// N5: iterations keep registers of their own, since just one end opens each.
func TestIterationsStayApart(t *testing.T) {
	count := iterator(proc("i", "w", block(yield(0, 1), number(0, 4)), block(ret(-1))), 0, api.RegWord)
	f := proc("p", "iiww",
		block(open("i", 0, 1)), block(next(0, 2, 2, 3)), block(goTo(1), put(2)),
		block(open("i", 1, 4)), block(next(1, 3, 5, 6)), block(goTo(4), put(3)), block(ret(-1)))
	g := must[api.Flow](t, f)(color.Allocate(f, 8, 8))
	if _, e := flow.CheckAll([]api.Flow{count, g}); e != api.OK || countOf(g, api.RegIter) != 2 || countOf(g, api.RegWord) != 1 {
		t.Errorf("N5: %d: %+v", e, g)
	}
	r, e := flow.Run([]api.Flow{count, g}, "p", nil, 100)
	if e != api.OK || r.Kind != api.RanDone || !slices.Equal(r.Put, []int{4, 4}) {
		t.Errorf("N5: %v, %d", r, e)
	}
}

// N5: there are no registers for what stands where no way leads, but what stands there is valid.
func TestBlocksToWhichNoWayLeads(t *testing.T) {
	f := proc("p", "wri", block(ret(-1)),
		block(open("i", 2, 1, 0, 1), number(0, 1), api.Ins{Op: api.InsNew, To: 1}),
		block(branch(0, 0, 1), api.Ins{Op: api.InsClose, A: 2}))
	g := must[api.Flow](t, f)(color.Allocate(f, 8, 8))
	if e := flow.Check(g); e != api.OK || len(g.Regs) > 0 {
		t.Errorf("N5: %d: %+v", e, g)
	}
	doesSame(t, proc("p", "", block(ret(-1))), g)
}

// N5: moves that the ways into a block need stay behind what an end reads, and behind what it writes.
func TestMovesAtEnds(t *testing.T) {
	// Both ends write 2, and it is moved from them; 3 and 4 change places beside.
	for _, x := range []api.End{try(ins(api.TryAdd, 2, 3, 4), 1), try(ins(api.TryAdd, 3, 3, 4), 1), try(ins(api.TryAdd, 4, 3, 4), 1), branch(3, 1, 1), goTo(1)} {
		f := words(1, 7,
			block(goTo(1), number(1, -1), number(2, 1), number(3, 2), number(4, 5)),
			block(try(ins(api.TryAdd, 0, 0, 1), 2), put(2), put(3), put(4)),
			block(branch(0, 3, 4)),
			block(x, move(5, 3), move(3, 4), move(4, 5)),
			block(ret(-1)))
		g := must[api.Flow](t, f)(color.Allocate(f, 8, 8))
		for n := range 4 {
			doesSame(t, f, g, n+1)
		}
	}
}

// N5: what an end writes is moved behind it, even if nothing else that is moved has to do with the end.
func TestMovesOfWhatAnEndWrites(t *testing.T) {
	// 3 goes to 4, while 5 is what 4 was, and 6 is a copy; then the end writes 3.
	f := words(1, 7,
		block(goTo(1), number(1, -1), number(2, 1), number(3, 7), number(4, 5)),
		block(try(ins(api.TryAdd, 0, 0, 1), 2), put(3), put(4)),
		block(branch(0, 3, 4)),
		block(try(ins(api.TryAdd, 3, 2, 2), 1), move(5, 4), move(4, 3), move(6, 4), put(6), put(5)),
		block(ret(-1)))
	g := must[api.Flow](t, f)(color.Allocate(f, 8, 8))
	for n := range 4 {
		doesSame(t, f, g, n+1)
	}
}

// N5: moves that find no room in a block are in one of their own.
func TestMovesBesideFullBlocks(t *testing.T) {
	for _, n := range []int{196, 197, 198, 199, 200} {
		f := words(1, 5,
			block(goTo(1), number(1, -1), number(2, 1), number(3, 2)),
			block(try(ins(api.TryAdd, 0, 0, 1), 2), put(2), put(3)),
			block(branch(0, 3, 5)),
			block(goTo(4), move(4, 2), move(2, 3), move(3, 4)),
			block(goTo(1), slices.Repeat([]api.Ins{put(2)}, n)...),
			block(ret(-1)))
		g := must[api.Flow](t, f)(color.Allocate(f, 8, 8))
		doesSame(t, f, g, 3)
		if more := len(g.Blocks) - len(f.Blocks); more > 0 != (n > 197) {
			t.Errorf("N5: %d: %d blocks more", n, more)
		}
	}
}

// What is read in loops stays in registers, if there is something else.
func TestSlotsStayOutOfLoops(t *testing.T) {
	write, _ := lots(2, 9)
	f := words(1, 11, block(goTo(1), append(write, number(1, -1))...), block(try(ins(api.TryAdd, 0, 0, 1), 2)), block(branch(0, 1, 3)), block(ret(-1), slices.Repeat([]api.Ins{put(10)}, 5)...))
	for reg := 2; reg < 10; reg++ {
		f.Blocks[1].Ins = append(f.Blocks[1].Ins, put(reg))
	}
	g := must[api.Flow](t, f)(color.Spill(f, 9, 8))
	if spills(g, 10) != 1 {
		t.Errorf("N4: %+v", g)
	}
	doesSame(t, f, g, 3)
}

// N5: what has nothing to do is left out: a flow that needs no moves has none, and is not longer.
func TestNoMoves(t *testing.T) {
	f := sum()
	f.Regs = append(f.Regs, api.RegWord)
	f.Blocks[3] = block(ret(3), move(3, 1))
	g := must[api.Flow](t, f)(color.Allocate(f, 8, 8))
	n, e := flow.Size(f)
	m, err := flow.Size(g)
	if e != api.OK || err != api.OK || m != n-1 || countOf(g, api.RegWord) != 3 {
		t.Errorf("N5: %d, %d: %+v", n, m, g)
	}
}
