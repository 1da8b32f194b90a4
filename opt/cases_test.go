package opt_test

import (
	"slices"
	"testing"

	"argus/api"
	"argus/opt"
)

const most = api.MaxInt

// ask asks whether facts hold.
func ask(t *testing.T, what string, f api.Flow, want bool, l ...api.Fact) {
	t.Helper()
	if is, e := opt.CheckFacts(f, l); e != api.OK || is != want {
		t.Errorf("%s: %v: %v, %d", what, l, is, e)
	}
}

// L1: facts are as said, or they do not hold.
func TestFactsThatAreNone(t *testing.T) {
	f := proc("p", "wwrri",
		block(open("i", 4, 1), number(0, 5), number(1, 5), api.Ins{Op: api.InsNew, To: 2}, move(3, 2)),
		block(ret(-1), api.Ins{Op: api.InsClose, A: 4}),
		block(ret(-1)))
	for _, x := range []api.Fact{just(0, 5), within(0, -most, most), alike(1, 0), alike(3, 2), never(2)} {
		ask(t, "L1", f, true, x)
	}
	for _, x := range []api.Fact{
		within(2, -most, most), within(4, -most, most), within(5, -most, most), within(-1, -most, most), within(1<<62, -most, most), within(-1<<63, -most, most),
		within(0, 6, 5), within(0, -most-1, most), within(0, -most, most+1), within(0, -1<<63, 1<<63-1),
		{Kind: api.FactRange, Reg: 0, Low: 5, High: 5, Of: 1}, {Kind: api.FactRange, Reg: 0, Low: 5, High: 5, Of: -1},
		alike(0, 0), alike(1, 2), alike(2, 0), alike(4, 4), alike(4, 0), alike(5, 0), alike(-1, 0), alike(1, 5), alike(1, -1), alike(1, 1<<62), alike(-1<<63, 1<<62),
		{Kind: api.FactSame, Reg: 1, Low: 1}, {Kind: api.FactSame, Reg: 1, High: 1},
		never(-1), never(3), never(1 << 62),
		{Kind: api.FactNever, Reg: 2, Low: 1}, {Kind: api.FactNever, Reg: 2, High: 1}, {Kind: api.FactNever, Reg: 2, Of: 1},
		{}, {Kind: 4}, {Kind: 255, Reg: 2}, {Reg: 2},
	} {
		ask(t, "L1", f, false, x)
		ask(t, "L1", f, false, just(0, 5), x, alike(1, 0))
	}
	ask(t, "L1", f, true)
}

// span is the ends of a range.
type span struct{ low, high int }

// ranged returns a flow in whose block 3 the registers 5 and 6 have given ranges, with facts that say so: one of two numbers
// each, which are chosen by the argument. A word 7 is written there, behind which the flow puts it.
func ranged(a, b span, x api.Ins) (api.Flow, []api.Fact) {
	f := words(1, 9,
		block(branch(0, 1, 2), number(1, a.low), number(2, a.high), number(3, b.low), number(4, b.high)),
		block(goTo(3)),
		block(goTo(3)),
		block(goTo(4), phi(5, 1, 2), phi(6, 3, 4)),
		block(ret(-1), put(7)),
		block(ret(-1)))
	if x.Op >= api.TryAdd {
		f.Blocks[3].End = caught(try(x, 4), "others", 5)
	} else {
		f.Blocks[3].Ins = append(f.Blocks[3].Ins, x)
	}
	return f, []api.Fact{just(1, a.low), just(2, a.high), just(3, b.low), just(4, b.high), within(5, a.low, a.high), within(6, b.low, b.high)}
}

// askRange asks for the least range of the register 7 that follows; there is none if low is greater.
func askRange(t *testing.T, op uint8, a, b, want span) {
	t.Helper()
	x := ins(op, 7, 5, 6)
	if op == api.InsNot || op == api.InsMove {
		x.B = 0
	}
	f, l := ranged(a, b, x)
	if want.low > want.high {
		for _, n := range []int{-most, -1, 0, 1, most} {
			ask(t, "L1: none", f, true, append(l, just(7, n))...)
		}
		return
	}
	ask(t, "L1: least", f, true, append(l, within(7, want.low, want.high))...)
	ask(t, "L1: all", f, true, append(l, within(7, -most, most))...)
	if want.low < want.high {
		ask(t, "L1: above", f, false, append(l, within(7, want.low+1, want.high))...)
		ask(t, "L1: below", f, false, append(l, within(7, want.low, want.high-1))...)
	}
	if want.low < most {
		ask(t, "L1: beyond", f, false, append(l, within(7, want.high+1, max(most, want.high+1)))...)
	}
}

// L1: what numbers a range has to have.
func TestRangesThatFollow(t *testing.T) {
	none := span{1, 0}
	all := span{-most, most}
	for _, x := range []struct {
		op         uint8
		a, b, want span
	}{
		{api.InsMove, span{-3, 9}, span{0, 0}, span{-3, 9}},
		{api.InsLt, span{1, 4}, span{5, 6}, span{1, 1}}, {api.InsLt, span{1, 5}, span{5, 6}, span{0, 1}}, {api.InsLt, span{6, 9}, span{5, 6}, span{0, 0}},
		{api.InsLt, span{5, 9}, span{5, 6}, span{0, 1}}, {api.InsLt, all, all, span{0, 1}}, {api.InsLt, span{5, 5}, span{5, 5}, span{0, 0}},
		{api.InsLe, span{1, 5}, span{5, 6}, span{1, 1}}, {api.InsLe, span{1, 6}, span{5, 6}, span{0, 1}}, {api.InsLe, span{7, 9}, span{5, 6}, span{0, 0}},
		{api.InsLe, span{6, 9}, span{5, 6}, span{0, 1}}, {api.InsLe, span{5, 5}, span{5, 5}, span{1, 1}},
		{api.InsEq, span{1, 4}, span{5, 6}, span{0, 0}}, {api.InsEq, span{7, 8}, span{5, 6}, span{0, 0}}, {api.InsEq, span{1, 5}, span{5, 6}, span{0, 1}},
		{api.InsEq, span{6, 8}, span{5, 6}, span{0, 1}}, {api.InsEq, span{5, 5}, span{5, 5}, span{1, 1}}, {api.InsEq, span{5, 6}, span{5, 6}, span{0, 1}}, {api.InsEq, span{5, 5}, span{5, 6}, span{0, 1}},
		{api.InsAnd, span{0, 0}, span{1, 2}, span{0, 0}}, {api.InsAnd, span{1, 2}, span{0, 0}, span{0, 0}}, {api.InsAnd, span{1, 2}, span{-2, -1}, span{1, 1}},
		{api.InsAnd, span{0, 1}, span{1, 2}, span{0, 1}}, {api.InsAnd, span{1, 2}, span{-1, 0}, span{0, 1}}, {api.InsAnd, span{0, 0}, span{0, 0}, span{0, 0}},
		{api.InsOr, span{0, 0}, span{1, 2}, span{1, 1}}, {api.InsOr, span{1, 2}, span{0, 0}, span{1, 1}}, {api.InsOr, span{0, 0}, span{0, 0}, span{0, 0}},
		{api.InsOr, span{0, 1}, span{0, 0}, span{0, 1}}, {api.InsOr, span{0, 0}, span{-1, 0}, span{0, 1}}, {api.InsOr, span{0, 5}, span{1, 1}, span{1, 1}},
		{api.InsNot, span{0, 0}, span{0, 0}, span{1, 1}}, {api.InsNot, span{1, 7}, span{0, 0}, span{0, 0}}, {api.InsNot, span{-7, -1}, span{0, 0}, span{0, 0}}, {api.InsNot, span{-1, 1}, span{0, 0}, span{0, 1}},
		{api.TryAdd, span{1, 2}, span{10, 20}, span{11, 22}}, {api.TryAdd, span{1, most}, span{1, 2}, span{2, most}}, {api.TryAdd, span{-most, 0}, span{-1, 0}, span{-most, 0}},
		{api.TryAdd, span{most, most}, span{1, 2}, none}, {api.TryAdd, span{-most, -most}, span{-9, -1}, none}, {api.TryAdd, all, all, all},
		{api.TrySub, span{1, 2}, span{10, 20}, span{-19, -8}}, {api.TrySub, span{0, most}, span{-5, 7}, span{-7, most}}, {api.TrySub, span{most, most}, span{-2, -1}, none},
		{api.TryMul, span{-3, 2}, span{-5, 7}, span{-21, 15}}, {api.TryMul, span{-3, -2}, span{4, 5}, span{-15, -8}}, {api.TryMul, span{-3, -2}, span{-5, -4}, span{8, 15}},
		{api.TryMul, all, all, all}, {api.TryMul, span{2, 3}, span{most, most}, none}, {api.TryMul, span{0, 0}, all, span{0, 0}}, {api.TryMul, span{1, 2}, span{most - 1, most}, span{most - 1, most}},
		{api.TryDiv, span{-7, 7}, span{2, 3}, span{-4, 3}}, {api.TryDiv, span{5, 7}, span{2, 3}, span{1, 3}}, {api.TryDiv, span{-7, -5}, span{2, 3}, span{-4, -2}}, {api.TryDiv, span{-6, -6}, span{2, 3}, span{-3, -2}},
		{api.TryDiv, span{5, 7}, span{1, 3}, span{1, 7}}, {api.TryDiv, span{5, 7}, span{0, 3}, all}, {api.TryDiv, span{5, 7}, span{-3, -2}, all}, {api.TryDiv, span{0, 0}, span{0, 0}, all}, {api.TryDiv, all, span{1, most}, all},
		{api.TryMod, all, span{0, 0}, span{0, 0}}, {api.TryMod, all, span{1, 1}, span{0, 0}}, {api.TryMod, span{3, 3}, span{2, 7}, span{0, 6}}, {api.TryMod, all, span{-9, 7}, span{0, 8}},
		{api.TryMod, all, span{-9, -3}, span{0, 8}}, {api.TryMod, all, span{-1, 0}, span{0, 0}}, {api.TryMod, all, all, span{0, most - 1}}, {api.TryMod, all, span{0, 4}, span{0, 3}},
	} {
		askRange(t, x.op, x.a, x.b, x.want)
	}
}

// L1: ranges of what is made of something else, or of nothing.
func TestOtherRangesThatFollow(t *testing.T) {
	// 0 and 1 are references; 7 is what a call returns, 8 what is yielded, 9 an element; nothing writes 10.
	f := with(proc("p", "rrwwwwwwwwwwi",
		block(call("c", 7, 1), number(2, 3), api.Ins{Op: api.InsTag, To: 3, A: 0}, api.Ins{Op: api.InsSize, To: 4, A: 1}, ins(api.InsEq, 5, 0, 1),
			api.Ins{Op: api.InsGet, To: 6, A: 0}, api.Ins{Op: api.InsSpill, A: 2}, api.Ins{Op: api.InsLoad, To: 11}),
		block(open("i", 12, 2)),
		block(next(12, 8, 3, 3)),
		block(try(api.Ins{Op: api.TryRemh, To: 9, A: 1}, 4)),
		block(ret(-1))), 2, 0)
	f.Slots = []uint8{api.RegWord}
	for reg, want := range map[int]span{2: {3, 3}, 3: {0, 5}, 4: {0, 200}, 5: {0, 1}} {
		ask(t, "L1", f, true, within(reg, want.low, want.high))
		ask(t, "L1", f, false, within(reg, want.low+1, want.high+1))
		ask(t, "L1", f, false, within(reg, want.low-1, want.high-1))
	}
	for _, reg := range []int{6, 7, 8, 9, 11} {
		ask(t, "L1", f, true, within(reg, -most, most))
		ask(t, "L1", f, false, within(reg, 1-most, most))
		ask(t, "L1", f, false, within(reg, -most, most-1))
	}
	ask(t, "L1", f, true, just(10, 77))
}

// L1: an argument may have all numbers, and is not the same as anything; what is written nowhere is not either.
func TestFactsAboutArguments(t *testing.T) {
	// Nothing writes 2.
	f := words(2, 6, block(branch(5, 1, 1), move(3, 0), move(4, 3), number(5, 0)), block(ret(-1)))
	ask(t, "L1", f, true, within(0, -most, most))
	ask(t, "L1", f, false, within(0, 1-most, most))
	ask(t, "L1", f, false, within(1, -most, most-1))
	ask(t, "L1", f, false, alike(1, 0))
	ask(t, "L1", f, false, alike(0, 1), alike(1, 0))
	ask(t, "L1", f, true, alike(3, 0), alike(4, 0), alike(4, 3))
	ask(t, "L1", f, false, alike(4, 0))
	ask(t, "L1", f, false, alike(3, 1))
	ask(t, "L1", f, true, within(2, 9, 9), within(2, -most, 0))
	ask(t, "L1", f, false, alike(2, 0))
	ask(t, "L1", f, false, alike(3, 2))
	// Not even where nothing is entered.
	f.Blocks[0].End = branch(5, 2, 1)
	f.Blocks[0].Ins = f.Blocks[0].Ins[2:]
	f.Blocks = append(f.Blocks, block(ret(-1), move(3, 0), move(4, 3)))
	ask(t, "L1", f, true, just(5, 0), never(2), alike(3, 1), alike(4, 1))
	ask(t, "L1", f, false, just(5, 0), never(2), alike(3, 2))
	ask(t, "L1", f, false, just(5, 0), never(2), alike(2, 0))
}

// L1: of several ranges of a register the first one counts, and all have to follow.
func TestSeveralRanges(t *testing.T) {
	f := words(0, 3, block(ret(-1), number(0, 5), move(1, 0), move(2, 1)))
	wide, narrow := within(0, 0, 9), just(0, 5)
	ask(t, "L1", f, true, narrow, wide, just(1, 5))
	ask(t, "L1", f, false, wide, narrow, just(1, 5))
	ask(t, "L1", f, true, wide, narrow, within(1, 0, 9))
	ask(t, "L1", f, false, narrow, just(0, 6))
	for _, x := range []struct {
		l         []api.Fact
		low, high int
	}{{[]api.Fact{wide, narrow}, 0, 9}, {[]api.Fact{narrow, wide}, 5, 5}, {nil, -most, most}} {
		if low, high, e := opt.Range(f, x.l, 0); e != api.OK || low != x.low || high != x.high {
			t.Errorf("L2: %d, %d, %d, not %v", low, high, e, x)
		}
	}
}

// nevers returns the blocks of which it follows that they are never entered, together with other facts.
func nevers(t *testing.T, f api.Flow, l []api.Fact) []int {
	t.Helper()
	var out []int
	for b := range f.Blocks {
		if is, e := opt.CheckFacts(f, append(slices.Clone(l), never(b))); e != api.OK {
			t.Errorf("L1: %d", e)
		} else if is {
			out = append(out, b)
		}
	}
	return out
}

// L1: where ends may lead.
func TestBlocksThatAreNeverEntered(t *testing.T) {
	others := []any{"overflow", 6, "bounds", 7, "zerodivide", 8, "others", 5}
	for _, x := range []struct {
		what string
		a, b span
		end  api.End
		want []int
	}{
		{"if true", span{1, 2}, span{}, branch(5, 4, 5), []int{5, 6, 7, 8}},
		{"if false", span{0, 0}, span{}, branch(5, 4, 5), []int{4, 6, 7, 8}},
		{"if", span{-1, 1}, span{}, branch(5, 4, 5), []int{6, 7, 8}},
		{"one way", span{0, 0}, span{}, branch(5, 4, 4), []int{5, 6, 7, 8}},
		{"no sum too great", span{0, most - 1}, span{-most, 1}, caught(try(ins(api.TryAdd, 7, 5, 6), 4), others...), []int{5, 6, 7, 8}},
		{"a sum too great", span{0, most}, span{0, 1}, caught(try(ins(api.TryAdd, 7, 5, 6), 4), others...), []int{5, 7, 8}},
		{"a sum too small", span{-most, 0}, span{-1, 0}, caught(try(ins(api.TryAdd, 7, 5, 6), 4), others...), []int{5, 7, 8}},
		{"overflow by others", span{0, most}, span{0, 1}, caught(try(ins(api.TryAdd, 7, 5, 6), 4), "bounds", 7, "others", 5), []int{6, 7, 8}},
		{"overflow by nothing", span{0, most}, span{0, 1}, caught(try(ins(api.TryAdd, 7, 5, 6), 4), "bounds", 7), []int{5, 6, 7, 8}},
		{"a difference", span{0, most}, span{-1, 0}, caught(try(ins(api.TrySub, 7, 5, 6), 4), others...), []int{5, 7, 8}},
		{"no difference", span{0, most}, span{0, most}, caught(try(ins(api.TrySub, 7, 5, 6), 4), others...), []int{5, 6, 7, 8}},
		{"a product", span{-40000, 3}, span{-3, 40000}, caught(try(ins(api.TryMul, 7, 5, 6), 4), others...), []int{5, 7, 8}},
		{"no product", span{-25000, 3}, span{-3, 40000}, caught(try(ins(api.TryMul, 7, 5, 6), 4), others...), []int{5, 6, 7, 8}},
		{"a quotient", span{0, 9}, span{0, 9}, caught(try(ins(api.TryDiv, 7, 5, 6), 4), others...), []int{5, 6, 7}},
		{"no quotient", span{-most, most}, span{-9, -1}, caught(try(ins(api.TryDiv, 7, 5, 6), 4), others...), []int{5, 6, 7, 8}},
		{"a rest", span{0, 9}, span{-1, 0}, caught(try(ins(api.TryMod, 7, 5, 6), 4), others...), []int{5, 6, 7}},
		{"no rest", span{0, 9}, span{1, 9}, caught(try(ins(api.TryMod, 7, 5, 6), 4), others...), []int{5, 6, 7, 8}},
		{"addh", span{}, span{}, caught(try(api.Ins{Op: api.TryAddh, A: 8, B: 5}, 4), others...), []int{5, 7, 8}},
		{"remh", span{}, span{}, caught(try(api.Ins{Op: api.TryRemh, To: 7, A: 8}, 4), others...), []int{5, 6, 8}},
		{"fetch", span{}, span{}, caught(try(ins(api.TryFetch, 7, 8, 5), 4), others...), []int{5, 6, 8}},
		{"store", span{}, span{}, caught(try(api.Ins{Op: api.TryStore, A: 8, B: 5, Args: []int{6}}, 4), others...), []int{5, 6, 8}},
		{"call", span{}, span{}, caught(call("c", 7, 4), others...), nil},
		{"goto", span{}, span{}, goTo(6), []int{4, 5, 7, 8}},
	} {
		f, l := ranged(x.a, x.b, number(7, 0))
		f.Regs[8] = api.RegRef
		f.Blocks[0].Ins = append(f.Blocks[0].Ins, api.Ins{Op: api.InsNew, To: 8})
		f.Blocks[3].Ins, f.Blocks[3].End = f.Blocks[3].Ins[:2], x.end
		f.Blocks = append(f.Blocks[:4], block(ret(-1)), block(ret(-1)), block(ret(-1)), block(ret(-1)), block(ret(-1)))
		if got := nevers(t, f, l); !slices.Equal(got, x.want) {
			t.Errorf("L1: %s: %v, not %v", x.what, got, x.want)
		}
	}
}

// L1: blocks that are entered only from each other are never entered; the block 0 is.
func TestBlocksThatLeadToEachOther(t *testing.T) {
	f := words(1, 2,
		block(branch(1, 1, 4), number(1, 0)),
		block(branch(0, 2, 3)),
		block(goTo(1)),
		block(goTo(4)),
		block(branch(0, 0, 4)),
		block(goTo(5)),
		block(branch(0, 5, 4)))
	ask(t, "L1", f, true, just(1, 0), never(1), never(2), never(3), never(5), never(6))
	ask(t, "L1", f, false, just(1, 0), never(1), never(3))
	ask(t, "L1", f, false, just(1, 0), never(2), never(3))
	ask(t, "L1", f, true, just(1, 0), never(1), never(2))
	ask(t, "L1", f, false, just(1, 0), never(4))
	ask(t, "L1", f, false, just(1, 0), never(0))
	ask(t, "L1", f, true, never(6))
	ask(t, "L1", f, false, never(5), never(1), never(2))
	// An iteration may yield, end and signal; where a block yields, it goes on.
	f = iterator(proc("p", "wi",
		block(open("i", 1, 1)),
		block(caught(next(1, 0, 2, 3), "s", 4, "others", 5)),
		block(yield(0, 1)), block(ret(-1)), block(ret(-1)), block(ret(-1))), 0, 1)
	if got := nevers(t, f, nil); len(got) > 0 {
		t.Errorf("L1: %v", got)
	}
}

// L1: what stands in a block that is never entered may be anything.
func TestFactsWhereNothingIsEntered(t *testing.T) {
	f := words(1, 5,
		block(branch(1, 1, 2), number(1, 0)),
		block(try(ins(api.TryAdd, 4, 0, 0), 2), number(2, 7), move(3, 2)),
		block(ret(-1)))
	for _, x := range []api.Fact{just(2, 9), just(3, 1), just(4, 0), alike(2, 0), alike(3, 1), alike(4, 3), alike(4, 1), alike(2, 1)} {
		ask(t, "L1", f, true, just(1, 0), never(1), x)
		ask(t, "L1", f, false, just(1, 0), x)
	}
	// But what it is the same as has to stand ahead.
	for _, x := range []api.Fact{alike(2, 3), alike(3, 4), alike(2, 4)} {
		ask(t, "L1", f, false, just(1, 0), never(1), x)
	}
}

// L1: the phis of a block take what comes from where an end may lead.
func TestPhisThatFollow(t *testing.T) {
	f := words(1, 8,
		block(branch(0, 1, 2), number(1, 3), number(2, 9), number(7, 0)),
		block(branch(7, 3, 4)),
		block(goTo(3)),
		block(goTo(3), phi(3, 2, 1, 5), phi(4, 0, 1, 4), move(5, 3)),
		block(ret(-1)))
	l := []api.Fact{just(1, 3), just(2, 9), just(7, 0)}
	ask(t, "L1", f, true, append(l, just(3, 3), just(5, 3))...)
	ask(t, "L1", f, false, append(l, just(3, 3))...)
	ask(t, "L1", f, false, append(l[:2:2], just(3, 3), just(5, 3))...)
	ask(t, "L1", f, true, append(l[:2:2], within(3, 3, 9), within(5, 3, 9))...)
	// It has what 1 has, by way of 5; the phi 4 takes itself.
	ask(t, "L1", f, true, append(l, alike(3, 1), alike(5, 1))...)
	ask(t, "L1", f, false, append(l, alike(3, 1), alike(5, 3))...)
	ask(t, "L1", f, false, append(l[:2:2], alike(3, 1), alike(5, 1))...)
	ask(t, "L1", f, true, append(l, alike(4, 1))...)
	ask(t, "L1", f, false, append(l, alike(4, 0))...)
	ask(t, "L1", f, false, append(l, alike(4, 3))...)
}

// L1: instructions that make the same of the same.
func TestInstructionsThatAreTheSame(t *testing.T) {
	for _, op := range []uint8{api.InsLt, api.InsLe, api.InsEq, api.InsAnd, api.InsOr} {
		f := words(3, 12, block(ret(-1), move(3, 0), move(4, 0), ins(op, 5, 0, 1), ins(op, 6, 0, 1), ins(op, 7, 3, 1), ins(op, 8, 4, 1), ins(op, 9, 1, 0), ins(op, 10, 0, 2), ins(op, 11, 1, 4)))
		l := []api.Fact{alike(3, 0), alike(4, 0)}
		ask(t, "the same", f, true, alike(6, 5))
		ask(t, "above", f, false, alike(5, 6))
		ask(t, "A is the same", f, true, append(l, alike(7, 5))...)
		ask(t, "A is not said to be", f, false, alike(7, 5))
		ask(t, "both as a third one", f, true, append(l, alike(8, 7))...)
		ask(t, "both as a third one", f, false, alike(3, 0), alike(8, 7))
		ask(t, "exchanged", f, false, alike(9, 5))
		ask(t, "another B", f, false, alike(10, 5))
		ask(t, "B is the same", f, true, append(l, alike(11, 9))...)
		ask(t, "the other way round", f, true, alike(3, 0), alike(4, 0), alike(8, 5))
		f.Blocks[0].Ins[3].Op = api.InsLt + (op-api.InsLt+1)%5
		ask(t, "another Op", f, false, alike(6, 5))
	}
	f := words(1, 6, block(ret(-1), number(1, 7), number(2, 7), number(3, 8), api.Ins{Op: api.InsNot, To: 4, A: 0}, api.Ins{Op: api.InsNot, To: 5, A: 0}))
	ask(t, "words", f, true, alike(2, 1), alike(5, 4))
	ask(t, "other words", f, false, alike(3, 1))
	f = with(proc("p", "rwwwwrrrr", block(ret(-1), api.Ins{Op: api.InsTag, To: 1, A: 0}, api.Ins{Op: api.InsTag, To: 2, A: 0}, api.Ins{Op: api.InsSize, To: 3, A: 0}, api.Ins{Op: api.InsSize, To: 4, A: 0},
		api.Ins{Op: api.InsNew, To: 5}, api.Ins{Op: api.InsNew, To: 6}, api.Ins{Op: api.InsGet, To: 7, A: 0}, api.Ins{Op: api.InsGet, To: 8, A: 0})), 1, 0)
	ask(t, "tags", f, true, alike(2, 1))
	ask(t, "sizes", f, false, alike(4, 3))
	ask(t, "objects", f, false, alike(6, 5))
	ask(t, "fields", f, false, alike(8, 7))
	// The other way round: what stands ahead is said to be the same.
	f = words(2, 5, block(ret(-1), move(2, 0), ins(api.InsLt, 3, 2, 1), ins(api.InsLt, 4, 0, 1)))
	ask(t, "the other way round", f, true, alike(2, 0), alike(4, 3))
	ask(t, "the other way round", f, false, alike(4, 3))
}

// L1: a move has what it reads, or what this is the same as, which is said of it and not of others.
func TestMovesThatAreTheSame(t *testing.T) {
	f := words(1, 5, block(ret(-1), move(1, 0), move(2, 1), move(3, 2), move(4, 0)))
	ask(t, "L1", f, true, alike(1, 0), alike(2, 1), alike(3, 2))
	ask(t, "L1", f, true, alike(1, 0), alike(2, 0), alike(2, 1), alike(3, 0), alike(3, 1))
	ask(t, "L1", f, false, alike(1, 0), alike(2, 0), alike(3, 1))
	ask(t, "L1", f, false, alike(1, 0), alike(2, 1), alike(3, 0))
	ask(t, "L1", f, false, alike(1, 0), alike(4, 1))
	ask(t, "L1", f, false, alike(1, 2))
	f = with(proc("p", "rrr", block(ret(-1), move(1, 0), move(2, 1))), 1, 0)
	ask(t, "references", f, true, alike(1, 0), alike(2, 0))
}

// L1: what stands ahead of what, where an end writes.
func TestEndsThatStandAhead(t *testing.T) {
	// 1 is written on the way from the block 0 to the block 1, and 2 behind it.
	f := words(1, 4,
		block(caught(try(ins(api.TryAdd, 1, 0, 0), 1), "others", 3)),
		block(goTo(2), phi(3, 1), move(2, 1)),
		block(ret(-1), put(2)),
		block(ret(-1)))
	ask(t, "behind the end", f, true, alike(2, 1))
	ask(t, "the phi of the way", f, true, alike(3, 1))
	ask(t, "the other one", f, false, alike(1, 2))
	// Another block leads there: 1 is not written on all ways, but wherever 2 is.
	f.Blocks[3] = block(branch(0, 1, 2), number(3, 0))
	f.Blocks[1] = block(goTo(2), phi(1, 2, 3))
	f.Blocks[0].End.Ins.To = 2
	f.Blocks[2] = block(ret(-1))
	ask(t, "two ways", f, false, alike(1, 2))
	// A way back leads there, which 1 does not need to be written on: still another block leads to To.
	f = words(1, 3,
		block(try(ins(api.TryAdd, 1, 0, 0), 1)),
		block(branch(0, 1, 2), move(2, 1)),
		block(ret(-1)))
	ask(t, "a way back", f, false, alike(2, 1))
	f.Blocks[1].End = goTo(2)
	ask(t, "no way back", f, true, alike(2, 1))
	// The end leads there by a handler, too.
	f = words(1, 3,
		block(caught(try(ins(api.TryAdd, 1, 0, 0), 1), "bounds", 1)),
		block(ret(-1), number(2, 7)),
		block(branch(2, 1, 1)))
	f.Blocks[2] = block(ret(-1))
	ask(t, "leads there twice", f, false, never(1), alike(2, 1))
	// A block in which nothing counts: arguments stand ahead, and what is above.
	f = words(1, 6,
		block(ret(-1)),
		block(try(ins(api.TryAdd, 4, 0, 0), 2), move(1, 0), move(2, 1)),
		block(ret(-1), move(3, 2), move(5, 4)))
	ask(t, "above", f, true, alike(1, 0), alike(2, 1))
	ask(t, "nothing dominates", f, false, alike(3, 2))
	ask(t, "no end stands ahead", f, false, alike(5, 4))
	ask(t, "arguments do", f, true, alike(1, 0), alike(2, 0), alike(3, 0), never(1), never(2))
}

// An end that leads to the block 0 does not stand ahead of anything, since a run begins there: what it writes is not written
// for certain, and two such registers could stand for each other for ever.
func TestEndsThatLeadToTheBeginning(t *testing.T) {
	f := words(1, 4,
		block(caught(try(ins(api.TryAdd, 1, 0, 0), 3), "bounds", 1)),
		block(try(ins(api.TryAdd, 2, 0, 0), 2)),
		block(try(ins(api.TryAdd, 3, 0, 0), 0)),
		block(ret(-1)))
	ask(t, "L1", f, true, never(1), never(2), alike(3, 2))
	ask(t, "L1", f, false, never(1), never(2), alike(2, 3))
	ask(t, "P12.2", f, false, never(1), never(2), alike(2, 3), alike(3, 2))
}
