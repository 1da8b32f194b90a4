package opt_test

import (
	"slices"
	"testing"

	"argus/api"
	"argus/flow"
	"argus/opt"
)

// five is the chapter's example: the procedure main.
func five() api.Flow {
	f := words(0, 6,
		block(caught(try(ins(api.TryAdd, 3, 0, 1), 1), "others", 3), number(0, 2), number(1, 3), number(2, 7)),
		block(branch(4, 2, 3), ins(api.InsLt, 4, 3, 2)),
		block(ret(3)),
		block(ret(5), number(5, 0)))
	f.Name, f.Result = "main", api.RegWord
	return f
}

// fiveFacts are the facts of the example.
func fiveFacts() []api.Fact {
	return []api.Fact{just(0, 2), just(1, 3), just(2, 7), just(3, 5), just(4, 1), never(3)}
}

func within(reg, low, high int) api.Fact {
	return api.Fact{Kind: api.FactRange, Reg: reg, Low: low, High: high}
}

func just(reg, n int) api.Fact { return within(reg, n, n) }

func alike(reg, of int) api.Fact { return api.Fact{Kind: api.FactSame, Reg: reg, Of: of} }

func never(block int) api.Fact { return api.Fact{Kind: api.FactNever, Reg: block} }

func TestExamplesOfFacts(t *testing.T) {
	f, l := five(), fiveFacts()
	for _, x := range []struct {
		l    []api.Fact
		want bool
	}{{l, true}, {l[3:], false}, {[]api.Fact{within(3, 0, 9)}, false}} {
		if is, e := opt.CheckFacts(f, x.l); e != api.OK || is != x.want {
			t.Errorf("L1: %v: %v, %d", x.l, is, e)
		}
	}
	low, high, e := opt.Range(f, l[:2], 3)
	if low != -1000000000 || high != 1000000000 || e != api.OK {
		t.Errorf("L2: %d, %d, %d", low, high, e)
	}
	found, e := opt.Facts(f)
	if is, err := opt.CheckFacts(f, found); e != api.OK || err != api.OK || !is {
		t.Errorf("L1: %v, %d: %v, %d", found, e, is, err)
	}
	for _, x := range l {
		if !slices.Contains(found, x) {
			t.Errorf("L1: %v is not in %v", x, found)
		}
	}
}

func TestExamplesOfFold(t *testing.T) {
	f, e := opt.Fold(five(), fiveFacts())
	want := five()
	want.Blocks[0] = block(goTo(1), number(0, 2), number(1, 3), number(2, 7), number(3, 5))
	want.Blocks[1] = block(goTo(2), number(4, 1))
	if e != api.OK || !same(f, want) {
		t.Fatalf("L3: %d, %+v", e, f)
	}
	if l, e := opt.Needed(f); e != api.OK || !slices.Equal(l, []int{3, 5}) {
		t.Errorf("L4: %v, %d", l, e)
	}
	f, e = opt.Dead(f)
	if n, err := flow.Size(f); e != api.OK || err != api.OK || n != 6 {
		t.Errorf("L4: %d, %d, %d", n, e, err)
	}
	f, e = opt.Trim(f)
	ran, err := flow.Run([]api.Flow{f}, "main", nil, 100)
	wanted := api.Ran{Kind: api.RanDone, Value: api.Value{Kind: api.ValInt, N: 5}, Steps: 4}
	if e != api.OK || err != api.OK || len(f.Blocks) != 3 || !same(ran, wanted) {
		t.Errorf("L5: %d, %d, %+v: %v", e, err, f, ran)
	}
}

func TestExamplesOfOpt(t *testing.T) {
	f, e := opt.Opt(five())
	want := words(0, 6, block(ret(3), number(3, 5)))
	want.Name, want.Result = "main", api.RegWord
	if e != api.OK || !same(f, want) {
		t.Errorf("L6: %d, %+v", e, f)
	}
}

// counting is a loop: the phi 1 is of 2, which is 0, and of 5, the sum of 1 and of 6, which is 1.
func counting() api.Flow {
	return words(1, 7,
		block(goTo(1), number(2, 0), number(6, 1)),
		block(try(ins(api.TryAdd, 5, 1, 6), 2), phi(1, 2, 5), move(4, 1), number(3, 9)),
		block(branch(0, 1, 3)),
		block(ret(-1), put(5)))
}

func TestExamplesOfLoops(t *testing.T) {
	f := counting()
	for _, x := range []struct {
		l    []api.Fact
		want bool
	}{
		{[]api.Fact{just(2, 0), just(6, 1), within(1, 0, api.MaxInt), within(5, 0, api.MaxInt)}, true},
		{[]api.Fact{just(2, 0), just(6, 1), within(1, 0, api.MaxInt), within(5, 1, api.MaxInt)}, true},
		{[]api.Fact{just(2, 0), just(6, 1), within(1, 0, api.MaxInt)}, false},
		{[]api.Fact{just(2, 0), just(6, 1), within(5, 1, api.MaxInt)}, false},
		{[]api.Fact{just(2, 0), just(6, 1), within(1, 0, 1000), within(5, 0, 1000)}, false},
		{[]api.Fact{alike(4, 1)}, true},
		{[]api.Fact{alike(1, 4)}, false},
	} {
		if is, e := opt.CheckFacts(f, x.l); e != api.OK || is != x.want {
			t.Errorf("L1: %v: %v, %d", x.l, is, e)
		}
	}
	found, e := opt.Facts(f)
	for _, x := range []api.Fact{within(1, 0, api.MaxInt), within(5, 1, api.MaxInt), alike(4, 1)} {
		if e != api.OK || !slices.Contains(found, x) {
			t.Errorf("L1: %v is not in %v, %d", x, found, e)
		}
	}
}

// Loops that count down, or do not count.
func TestLoopsThatCountDown(t *testing.T) {
	for op, want := range map[uint8]api.Fact{api.TrySub: within(1, -api.MaxInt, 0), api.TryMul: just(1, 0), api.TryMod: just(1, 0), api.TryDiv: just(1, 0)} {
		f := counting()
		f.Blocks[1].End.Ins.Op = op
		if found, e := opt.Facts(f); e != api.OK || !slices.Contains(found, want) {
			t.Errorf("L1: %v is not in %v, %d", want, found, e)
		}
	}
}

// Blocks that are entered one after the other, each from one that stands behind it.
func TestBlocksThatAreEnteredLate(t *testing.T) {
	f := words(1, 5,
		block(branch(1, 2, 4), number(1, 0)),
		block(goTo(2)),
		block(goTo(3), ins(api.InsLt, 2, 0, 0)),
		block(branch(0, 2, 4)),
		block(branch(0, 3, 5)),
		block(ret(-1)))
	l, e := opt.Facts(f)
	if is, err := opt.CheckFacts(f, l); e != api.OK || err != api.OK || !is || !slices.Contains(l, within(2, 0, 1)) || slices.Contains(l, never(2)) {
		t.Errorf("L1: %v, %d, %v", l, e, is)
	}
}
