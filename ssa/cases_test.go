package ssa_test

import (
	"slices"
	"testing"

	"argus/api"
	"argus/flow"
	"argus/ssa"
)

// K1: what is in SSA form, and what is not.
func TestForms(t *testing.T) {
	for name, x := range map[string]struct {
		f    api.Flow
		want api.Errno
	}{
		"nothing written":      {words(2, 3, block(ret(-1), put(0))), api.OK},
		"once each":            {words(1, 4, block(try(add(3, 0, 1), 1), number(1, 2), move(2, 1)), block(ret(-1), put(3))), api.OK},
		"an argument":          {words(1, 2, block(ret(-1), number(0, 1))), api.ErrSsa},
		"an argument, end":     {words(1, 2, block(try(add(0, 0, 0), 1)), block(ret(-1))), api.ErrSsa},
		"an argument, phi":     {words(1, 2, block(goTo(1)), block(ret(-1), phi(0, 0))), api.ErrSsa},
		"twice in a block":     {words(1, 2, block(ret(-1), number(1, 1), number(1, 1))), api.ErrSsa},
		"twice in two blocks":  {words(1, 2, block(branch(0, 1, 2)), block(ret(-1), number(1, 1)), block(ret(-1), number(1, 1))), api.ErrSsa},
		"block and end":        {words(1, 2, block(try(add(1, 0, 0), 1), number(1, 1)), block(ret(-1))), api.ErrSsa},
		"two ends":             {words(1, 2, block(try(add(1, 0, 0), 1)), block(call("q", 1, 2)), block(ret(-1))), api.ErrSsa},
		"phi and next":         {with(proc("p", "wwi", block(open("q", 2, 1)), block(next(2, 1, 1, 2), phi(1, 0, 0)), block(ret(-1))), 1, 0), api.ErrSsa},
		"a loop":               {words(1, 2, block(goTo(1)), block(branch(1, 1, 2), number(1, 1)), block(ret(-1), put(1))), api.OK},
		"where no way leads":   {words(1, 2, block(ret(-1), number(1, 1)), block(ret(-1), number(1, 1))), api.ErrSsa},
		"an end that is twice": {words(1, 2, block(caught(try(add(1, 0, 0), 1), "overflow", 1)), block(ret(-1))), api.OK},
		"not straight":         {words(1, 2, block(branch(0, 0, 1)), block(ret(-1))), api.OK},
		"a flow with a fault":  {words(1, 2, block(ret(0), number(0, 1))), api.ErrFlow},
		"an unwritten one":     {words(1, 2, block(ret(-1), put(1), number(0, 1))), api.ErrRead},
	} {
		if e := ssa.Check(x.f); e != x.want {
			t.Errorf("K1: %s: %d, not %d", name, e, x.want)
		}
	}
}

// twoWays writes the register 1 on two ways that meet in the block 3; in the block 1 it is written by the end.
func twoWays() api.Flow {
	return with(words(1, 2,
		block(branch(0, 1, 2), number(1, 7)),
		block(caught(try(add(1, 1, 0), 3), "overflow", 4)),
		block(goTo(3), number(1, 9)),
		block(ret(1), put(1)),
		block(ret(1))), 1, 1)
}

// twoWaysForm comes from it, with the origins 0, 1, 1, 1, 1.
func twoWaysForm() form {
	return form{with(words(1, 5,
		block(branch(0, 1, 2), number(1, 7)),
		block(caught(try(add(2, 1, 0), 3), "overflow", 4)),
		block(goTo(3), number(3, 9)),
		block(ret(4), phi(4, 2, 3), put(4)),
		block(ret(1))), 1, 1), []int{0, 1, 1, 1, 1}}
}

// K2: what comes from a flow, and what does not.
func TestWhatComesFromAFlow(t *testing.T) {
	f := twoWays()
	for name, x := range map[string]struct {
		change func(g *form)
		want   bool
	}{
		"as it is":                {func(g *form) {}, true},
		"a register more":         {func(g *form) { g.Regs, g.origins = append(g.Regs, 1), append(g.origins, 0) }, true},
		"no origin for it":        {func(g *form) { g.Regs = append(g.Regs, 1) }, false},
		"an origin more":          {func(g *form) { g.origins = append(g.origins, 0) }, false},
		"of another kind":         {func(g *form) { g.Regs, g.origins = append(g.Regs, 2), append(g.origins, 0) }, false},
		"an origin there is not":  {func(g *form) { g.Regs, g.origins = append(g.Regs, 1), append(g.origins, 2) }, false},
		"one below 0":             {func(g *form) { g.Regs, g.origins = append(g.Regs, 1), append(g.origins, -1) }, false},
		"an argument's":           {func(g *form) { g.origins[0] = 1 }, false},
		"the name":                {func(g *form) { g.Name = "q" }, false},
		"the signals":             {func(g *form) { g.Signals = []string{"a"} }, false},
		"the slots":               {func(g *form) { g.Slots = []uint8{1} }, false},
		"the arguments":           {func(g *form) { g.Args = 0 }, false},
		"a block more":            {func(g *form) { g.Blocks = append(g.Blocks, block(ret(0))) }, false},
		"an instruction more":     {func(g *form) { g.Blocks[4].Ins = []api.Ins{put(0)} }, false},
		"one less":                {func(g *form) { g.Blocks[3].Ins = g.Blocks[3].Ins[:1] }, false},
		"another number":          {func(g *form) { g.Blocks[0].Ins[0].N = 8 }, false},
		"another instruction":     {func(g *form) { g.Blocks[2].Ins[0] = api.Ins{Op: api.InsNot, To: 3} }, false},
		"another end":             {func(g *form) { g.Blocks[4].End = signal("a") }, false},
		"another Try":             {func(g *form) { g.Blocks[1].End.Ins.Op = api.TrySub }, false},
		"another When":            {func(g *form) { g.Blocks[1].End.Whens[0].Name = "a" }, false},
		"another handler":         {func(g *form) { g.Blocks[1].End.Others = 4 }, false},
		"another block behind":    {func(g *form) { g.Blocks[0].End.Else = 4 }, false},
		"Args exchanged":          {func(g *form) { g.Blocks[3].Ins[0].Args = []int{3, 2} }, false},
		"an Arg of the other way": {func(g *form) { g.Blocks[3].Ins[0].Args = []int{1, 3} }, false},
		"an Arg of other origin":  {func(g *form) { g.Blocks[3].Ins[0].Args = []int{0, 3} }, false},
		"an old version":          {func(g *form) { g.Blocks[3].Ins[1].A = 1 }, false},
		"one of one way":          {func(g *form) { g.Blocks[1].End.Ins.A = 0 }, false},
		"what the end writes":     {func(g *form) { g.origins[2] = 2 }, false},
		"what a signal leaves":    {func(g *form) { g.Blocks[4].End.A = 2 }, false},
		"no phi":                  {func(g *form) { g.Blocks[3] = block(ret(1), put(1)) }, false},
		"a phi twice": {func(g *form) {
			g.Blocks[3].Ins = slices.Insert(g.Blocks[3].Ins, 0, phi(5, 2, 3))
			g.Regs, g.origins = append(g.Regs, 1), append(g.origins, 1)
		}, false},
		"a phi that is not needed": {func(g *form) {
			g.Blocks[3].Ins = slices.Insert(g.Blocks[3].Ins, 0, phi(5, 0, 0))
			g.Regs, g.origins = append(g.Regs, 1), append(g.origins, 0)
		}, true},
		"one that is passed by": {func(g *form) {
			g.Blocks[4] = block(ret(1), phi(5, 1))
			g.Regs, g.origins = append(g.Regs, 1), append(g.origins, 1)
		}, false},
		"one that is read": {func(g *form) {
			g.Blocks[4] = block(ret(5), phi(5, 1))
			g.Regs, g.origins = append(g.Regs, 1), append(g.origins, 1)
		}, true},
		"one register twice": {func(g *form) { g.Blocks[2].Ins[0].To = 1 }, false},
		"no flow":            {func(g *form) { *g = form{} }, false},
	} {
		g := twoWaysForm()
		x.change(&g)
		if is, e := ssa.CheckInto(f, g.Flow, g.origins); e != api.OK || is != x.want || is != comesFrom(f, g.Flow, g.origins) {
			t.Errorf("K2: %s: %v, %d", name, is, e)
		}
	}
}

// K2: ends that differ in nothing but what they call, signal or write.
func TestEndsThatDiffer(t *testing.T) {
	f := words(1, 3, block(call("q", 1, 1, 0)), block(signal("a")))
	same := form{f, []int{0, 1, 2}}
	other := form{words(1, 3, block(call("r", 1, 1, 0)), block(signal("a"))), same.origins}
	signals := form{words(1, 3, block(call("q", 1, 1, 0)), block(signal("b"))), same.origins}
	writes := form{words(1, 3, block(call("q", 2, 1, 0)), block(signal("a"))), same.origins}
	none := form{words(1, 3, block(call("q", -1, 1, 0)), block(signal("a"))), same.origins}
	for i, g := range []form{same, other, signals, writes, none} {
		if is, e := ssa.CheckInto(f, g.Flow, g.origins); e != api.OK || is != (i == 0) || is != comesFrom(f, g.Flow, g.origins) {
			t.Errorf("K2: %d: %v, %d", i, is, e)
		}
	}
}

// K2: in a loop that does not write it a register has one version, without a phi; where it is written, the versions differ.
func TestVersionsInLoops(t *testing.T) {
	f := words(2, 2,
		block(goTo(1)),
		block(branch(0, 2, 3), put(1)),
		block(goTo(1), number(0, 0)),
		block(ret(-1), put(0)))
	g := form{words(2, 4,
		block(goTo(1)),
		block(branch(2, 2, 3), phi(2, 0, 3), put(1)),
		block(goTo(1), number(3, 0)),
		block(ret(-1), put(2))), []int{0, 1, 0, 0}}
	if is, e := ssa.CheckInto(f, g.Flow, g.origins); e != api.OK || !is {
		t.Errorf("K2: %v, %d", is, e)
	}
	if h := into(t, f); !same(h.Flow, g.Flow) || !slices.Equal(h.origins, g.origins) {
		t.Errorf("K2: %+v, %v", h.Flow, h.origins)
	}
	// It reads the argument after the loop.
	g.Blocks[3].Ins[0].A = 0
	if is, e := ssa.CheckInto(f, g.Flow, g.origins); e != api.OK || is {
		t.Errorf("K2: %v, %d", is, e)
	}
}

// K2: where no way leads, any version is right, if it has the right origin; and ways from there are none.
func TestVersionsWhereNoWayLeads(t *testing.T) {
	f := words(1, 3,
		block(goTo(1)),
		block(ret(-1), put(0)),
		block(goTo(3), number(0, 1), put(0), put(1)),
		block(branch(0, 1, 2), put(0), move(2, 1)))
	g := into(t, f)
	if is, e := ssa.CheckInto(f, g.Flow, g.origins); e != api.OK || !is || !comesFrom(f, g.Flow, g.origins) {
		t.Errorf("K2: %v, %+v, %v, %d", is, g.Flow, g.origins, e)
	}
	h := form{words(1, 5,
		block(goTo(1)),
		block(ret(-1), phi(4, 0, 1), put(4)),
		block(goTo(3), number(1, 1), put(4), put(2)),
		block(branch(1, 1, 2), put(0), move(3, 2))), []int{0, 0, 1, 2, 0}}
	if is, e := ssa.CheckInto(f, h.Flow, h.origins); e != api.OK || !is || !comesFrom(f, h.Flow, h.origins) {
		t.Errorf("K2: %v, %d", is, e)
	}
	h.Blocks[1].Ins[0].Args[1] = 2
	if is, e := ssa.CheckInto(f, h.Flow, h.origins); e != api.OK || is || comesFrom(f, h.Flow, h.origins) {
		t.Errorf("K2: %v, %d", is, e)
	}
	h.Blocks[1].Ins[0].Args[1], h.Blocks[2].Ins[1].A = 1, 2
	if is, e := ssa.CheckInto(f, h.Flow, h.origins); e != api.OK || is {
		t.Errorf("K2: %v, %d", is, e)
	}
}

// K2: errors of Into, CheckInto and Straight.
func TestErrorsOfInto(t *testing.T) {
	valid := words(1, 2, block(branch(0, 1, 1)), block(ret(-1)))
	back := words(1, 2, block(branch(0, 0, 1)), block(ret(-1)))
	twice := words(1, 2, block(caught(try(add(1, 0, 0), 1), "others", 1)), block(ret(-1)))
	both := words(1, 2, block(branch(0, 0, 1)), block(ret(-1), phi(1, 0)))
	wrong := words(1, 2, block(branch(0, 0, 2)), block(ret(-1), phi(1, 0)))
	unread := words(1, 2, block(branch(1, 0, 1)), block(ret(-1), phi(1, 0)))
	away := words(1, 2, block(ret(-1)), block(goTo(0)))
	nextTwice := with(proc("p", "wwi", block(open("q", 2, 1)), block(next(2, 1, 2, 2)), block(ret(-1))), 1, 0)
	callTwice := words(1, 2, block(caught(call("q", 1, 1), "a", 1)), block(ret(-1)))
	noResult := words(1, 2, block(caught(call("q", -1, 1), "a", 1)), block(ret(-1)))
	writesNone := with(proc("p", "rw", block(caught(try(api.Ins{Op: api.TryAddh, A: 0, B: 1}, 1), "bounds", 1), number(1, 1)), block(ret(-1))), 1, 0)
	for name, x := range map[string]struct {
		f              api.Flow
		into, straight api.Errno
	}{
		"valid": {valid, 0, 0}, "back": {back, api.ErrWays, 0}, "twice": {twice, api.ErrWays, 0}, "both": {both, api.ErrPhi, api.ErrPhi},
		"wrong": {wrong, api.ErrFlow, api.ErrFlow}, "unread": {unread, api.ErrRead, api.ErrRead}, "away": {away, api.ErrWays, 0},
		"next": {nextTwice, api.ErrWays, 0}, "call": {callTwice, api.ErrWays, 0}, "no result": {noResult, 0, 0}, "none": {writesNone, 0, 0},
	} {
		_, _, e := ssa.Into(x.f)
		_, g := ssa.CheckInto(x.f, x.f, nil)
		_, h := ssa.Straight(x.f)
		if e != x.into || g != x.into || h != x.straight {
			t.Errorf("K2: %s: %d, %d, %d", name, e, g, h)
		}
	}
}

// K2: the flow that Straight returns.
func TestStraight(t *testing.T) {
	f := with(words(1, 2,
		block(caught(try(add(1, 0, 0), 1), "overflow", 1, "others", 0)),
		block(caught(call("q", 1, 2), "a", 0, "b", 2)),
		block(branch(0, 1, 1))), 1, 0)
	want := with(words(1, 2,
		block(goTo(1)),
		block(caught(try(add(1, 0, 0), 4), "overflow", 2, "others", 1)),
		block(caught(call("q", 1, 5), "a", 1, "b", 3)),
		block(branch(0, 2, 2)),
		block(goTo(2)),
		block(goTo(3))), 1, 0)
	if g, e := ssa.Straight(f); e != api.OK || !same(g, want) {
		t.Errorf("K2: %+v, %d", g, e)
	}
	if g, e := ssa.Straight(want); e != api.OK || !same(g, want) {
		t.Errorf("P11.6: %+v, %d", g, e)
	}
	ends := with(words(1, 1, block(goTo(1)), block(signal("a"))), 1, 0)
	if g, e := ssa.Straight(ends); e != api.OK || !same(g, ends) {
		t.Errorf("K2: %+v, %d", g, e)
	}
}

// runOut runs a flow in SSA form, and what leads out of it, with some arguments.
func runOut(t *testing.T, name string, f api.Flow, args []int, others ...api.Flow) {
	t.Helper()
	g, e := ssa.Out(f)
	if e != api.OK || phiCount(g) > 0 {
		t.Fatalf("K3: %s: %d, %+v", name, e, g)
	}
	x, e := flow.Run(append([]api.Flow{f}, others...), f.Name, args, 1000)
	y, err := flow.Run(append([]api.Flow{g}, others...), f.Name, args, 1000)
	if e != err || e != api.OK || x.Kind == api.RanSpent {
		t.Fatalf("K3: %s: %v, %d, not %v, %d", name, y, err, x, e)
	}
	if x.Steps, y.Steps = 0, 0; !same(x, y) || len(x.Put) == 0 {
		t.Errorf("K3: %s: %v, not %v, with %v", name, y, x, args)
	}
}

// K3: phis that stand in each other's way.
func TestOutOfCrossedPhis(t *testing.T) {
	count := func(to, from int) api.Ins { return api.Ins{Op: api.TrySub, To: to, A: from, B: 1} }
	start := block(goTo(1), number(1, 1), number(2, 20), number(3, 30))
	for name, f := range map[string]api.Flow{
		// The value of the register 4 before the last round is read behind the loop.
		"a copy that is lost": words(1, 6, start,
			block(try(count(5, 4), 2), phi(4, 0, 5), put(4)),
			block(branch(5, 1, 3)),
			block(ret(-1), put(4))),
		"an exchange": words(1, 8, start,
			block(try(count(7, 4), 2), phi(4, 0, 7), phi(5, 2, 6), phi(6, 3, 5), put(5), put(6)),
			block(branch(7, 1, 3)),
			block(ret(-1), put(5), put(6))),
		"a circle of three": words(1, 9, start,
			block(try(count(8, 7), 2), phi(4, 1, 5), phi(5, 2, 6), phi(6, 3, 4), phi(7, 0, 8), put(4), put(5), put(6)),
			block(branch(8, 1, 3)),
			block(ret(-1), put(6))),
		"an end that reads them": words(1, 7, start,
			block(try(add(6, 4, 5), 2), phi(4, 2, 5), phi(5, 3, 4), put(4)),
			block(caught(call("q", -1, 3, 4), "a", 1)),
			block(ret(-1), put(6), put(4))),
		"what an end writes": words(1, 7, start,
			block(branch(4, 2, 3), phi(4, 0, 5), put(4)),
			block(caught(try(count(5, 4), 1), "overflow", 3)),
			block(ret(-1), put(4))),
		"what the last end writes": words(1, 7, start,
			block(branch(4, 2, 3), phi(4, 0, 5), put(4)),
			block(try(count(5, 4), 1)),
			block(ret(-1), put(4))),
		"an exchange behind both ways": words(1, 7, start,
			block(branch(0, 2, 2), number(6, 0)),
			block(branch(4, 2, 3), phi(4, 2, 5), phi(5, 6, 4), put(4)),
			block(ret(-1), put(5))),
		"all ways from one block": words(1, 6, start,
			block(branch(0, 2, 3), phi(4, 2)),
			block(goTo(3), phi(5, 4), put(5)),
			block(ret(-1), put(4))),
		"no way from one block": words(1, 7, start,
			block(branch(0, 2, 4), put(2)),
			block(ret(-1), phi(4, 2, 5), phi(5, 3, 4), put(4), put(5)),
			block(goTo(2), phi(6)),
			block(ret(-1), put(1))),
	} {
		q := words(1, 2, block(branch(0, 1, 1), put(0)), block(caught(try(api.Ins{Op: api.TryDiv, To: 1, A: 0, B: 0}, 2))), block(branch(0, 3, 3)), block(ret(-1)))
		q.Name = "q"
		if e := ssa.Check(f); e != api.OK {
			t.Fatalf("K3: %s: %d", name, e)
		}
		for _, n := range []int{1, 2, 3} {
			runOut(t, name, f, []int{n}, q)
		}
	}
}

// K3: words and references have circles of their own, each with a register besides.
func TestOutOfTwoKinds(t *testing.T) {
	make := func(to, word int) api.Ins { return api.Ins{Op: api.InsMake, To: to, Args: []int{word}} }
	get := func(to, a int) api.Ins { return api.Ins{Op: api.InsGet, To: to, A: a} }
	f := with(proc("p", "wwrrwwrrwww",
		block(goTo(1), number(1, 0), make(2, 0), make(3, 1)),
		block(branch(4, 1, 2), phi(4, 0, 5), phi(5, 1, 4), phi(6, 2, 7), phi(7, 3, 6), get(8, 6), put(8), put(4)),
		block(ret(-1), get(9, 7), put(9), put(5))), 1, 0)
	runOut(t, "two kinds", f, []int{3})
	g, _ := ssa.Out(f)
	if !slices.Equal(g.Regs[len(f.Regs):], []uint8{1, 2}) && !slices.Equal(g.Regs[len(f.Regs):], []uint8{2, 1}) {
		t.Errorf("K3: %v", g.Regs)
	}
}

// K3: Out does not ask whether a flow is straight.
func TestOutOfWhatIsNotStraight(t *testing.T) {
	f := words(1, 5,
		block(goTo(1)),
		block(caught(try(add(4, 0, 0), 2), "overflow", 2, "a", 3)),
		block(branch(2, 2, 3), phi(2, 0, 3), phi(3, 0, 2), put(2)),
		block(ret(-1), put(0)))
	runOut(t, "two ways", f, []int{0})
	f.Blocks[3].End = branch(0, 3, 0)
	f.Blocks = append(f.Blocks, block(goTo(0)))
	if g, e := ssa.Out(f); e != api.OK || flow.Check(g) != api.OK {
		t.Errorf("K3: %d", e)
	}
}

// K4: what is left out, and in which order.
func TestLean(t *testing.T) {
	away := func(l ...api.Block) []api.Block {
		return append([]api.Block{block(ret(-1))}, l...)
	}
	for name, x := range map[string]struct{ f, want api.Flow }{
		"one after the other": {
			words(1, 5, block(branch(0, 1, 2)), block(goTo(2)), block(branch(0, 2, 3), phi(1, 0, 0, 1)), block(ret(-1), phi(2, 1), phi(3, 1), put(2), put(3))),
			words(1, 5, block(branch(0, 1, 2)), block(goTo(2)), block(branch(0, 2, 3)), block(ret(-1), put(0), put(0)))},
		"one that comes to be": {
			words(1, 5, block(goTo(1)), block(branch(0, 1, 2), phi(1, 0, 2), phi(2, 0, 0)), block(ret(-1), put(1), put(2))),
			words(1, 5, block(goTo(1)), block(branch(0, 1, 2)), block(ret(-1), put(0), put(0)))},
		"two of each other": {
			words(2, 5, block(goTo(1)), block(branch(0, 1, 2), phi(2, 0, 3), phi(3, 0, 2)), block(ret(-1), put(2))),
			words(2, 5, block(goTo(1)), block(branch(0, 1, 2), phi(2, 0, 3), phi(3, 0, 2)), block(ret(-1), put(2)))},
		"where no way leads: the first one goes": {
			words(1, 3, away(block(branch(0, 1, 2), phi(1, 2, 2), phi(2, 1, 1), put(1), put(2)), block(goTo(1)))...),
			words(1, 3, away(block(branch(0, 1, 2), phi(2, 2, 2), put(2), put(2)), block(goTo(1)))...)},
		"none": {
			words(1, 3, away(block(ret(-1), phi(1), put(1)), block(goTo(2), phi(2, 2)))...),
			words(1, 3, away(block(ret(-1), phi(1), put(1)), block(goTo(2), phi(2, 2)))...)},
		"in ends": {
			with(words(1, 5, block(goTo(1)), block(try(add(2, 1, 1), 2), phi(1, 0)), block(call("q", 3, 3, 1, 2)), block(ret(1))), 1, 1),
			with(words(1, 5, block(goTo(1)), block(try(add(2, 0, 0), 2)), block(call("q", 3, 3, 0, 2)), block(ret(0))), 1, 1)},
	} {
		if g, e := ssa.Lean(x.f); e != api.OK || !same(g, x.want) || !same(plainLean(x.f), x.want) {
			t.Errorf("K4: %s: %+v, %d", name, g, e)
		}
	}
}

// K1, K3, K4: errors, and what Phis says of flows that are not in SSA form.
func TestErrorsOfForms(t *testing.T) {
	f := words(1, 3, block(goTo(1)), block(branch(0, 1, 2), phi(0, 0, 0), phi(1, 0, 0), phi(1, 0, 1)), block(ret(-1), put(1)))
	if n, e := ssa.Phis(f); e != api.OK || n != 3 {
		t.Errorf("K4: %d, %d", n, e)
	}
	if g, e := ssa.Out(f); e != api.ErrSsa || !same(g, api.Flow{}) {
		t.Errorf("K3: %d, %+v", e, g)
	}
	if g, e := ssa.Lean(f); e != api.ErrSsa || !same(g, api.Flow{}) {
		t.Errorf("K4: %d, %+v", e, g)
	}
}

// K5: errors, in their order.
func TestErrorsOfMoves(t *testing.T) {
	row := func(n int) []api.Pair {
		var l []api.Pair
		for i := range n {
			l = append(l, api.Pair{To: i, From: i + 1})
		}
		return l
	}
	many := make([]api.Pair, 300)
	for i := range many {
		many[i] = api.Pair{To: 500, From: 1}
	}
	most := append(slices.Clone(many[100:]), row(100)...)
	for name, x := range map[string]struct {
		l                    []api.Pair
		spare                int
		s                    []api.Pair
		least, moves, checks api.Errno
		is                   bool
	}{
		"none":                 {nil, 0, nil, 0, 0, 0, true},
		"a row of 100":         {row(100), 500, row(100), 0, 0, 0, true},
		"300 for a row":        {row(100), 500, most, 0, 0, 0, true},
		"301":                  {row(100), 500, append(slices.Clone(most), most[0]), 0, 0, api.ErrLimit, false},
		"301, and an error":    {row(100), 5, append(slices.Clone(most), most[0]), 0, api.ErrArg, api.ErrArg, false},
		"a row of 101":         {row(101), 500, nil, api.ErrLimit, api.ErrLimit, api.ErrLimit, false},
		"101, written twice":   {append(row(100), row(1)...), 500, nil, api.ErrLimit, api.ErrLimit, api.ErrLimit, false},
		"written twice":        {pairs(1, 2, 3, 4, 1, 5), 9, nil, api.ErrArg, api.ErrArg, api.ErrArg, false},
		"the same twice":       {pairs(1, 2, 1, 2), 9, nil, api.ErrArg, api.ErrArg, api.ErrArg, false},
		"with itself twice":    {pairs(4, 4, 4, 4), 9, nil, api.ErrArg, api.ErrArg, api.ErrArg, false},
		"with itself, written": {pairs(4, 4, 4, 1), 9, nil, api.ErrArg, api.ErrArg, api.ErrArg, false},
		"below 0":              {pairs(-1, 2), 9, nil, api.ErrArg, api.ErrArg, api.ErrArg, false},
		"reads below 0":        {pairs(1, -2), 9, nil, api.ErrArg, api.ErrArg, api.ErrArg, false},
		"itself below 0":       {pairs(-3, -3), 9, nil, api.ErrArg, api.ErrArg, api.ErrArg, false},
		"spare below 0":        {pairs(1, 2), -1, pairs(1, 2), 0, api.ErrArg, api.ErrArg, false},
		"no moves, spare -1":   {nil, -1, nil, 0, api.ErrArg, api.ErrArg, false},
		"spare is written":     {pairs(1, 2), 1, pairs(1, 2), 0, api.ErrArg, api.ErrArg, false},
		"spare is read":        {pairs(1, 2), 2, pairs(1, 2), 0, api.ErrArg, api.ErrArg, false},
		"spare with itself":    {pairs(3, 3, 1, 2), 3, pairs(1, 2), 0, api.ErrArg, api.ErrArg, false},
		"far away":             {pairs(1<<62, 0), 1<<63 - 1, pairs(1<<62, 0), 0, 0, 0, true},
		"more than needed":     {pairs(1, 2), 9, pairs(9, 1, 1, 2), 0, 0, 0, true},
		"reads what it may":    {pairs(1, 2), 9, pairs(9, -5, 1, 77, 1, 2), 0, 0, 0, true},
		"another one written":  {pairs(1, 2), 9, pairs(1, 2, 7, 1), 0, 0, 0, false},
		"another with itself":  {pairs(1, 2), 9, pairs(1, 2, 7, 7), 0, 0, 0, false},
		"read ones written":    {pairs(1, 2), 9, pairs(1, 2, 2, 1), 0, 0, 0, false},
		"not done":             {pairs(1, 2), 9, nil, 0, 0, 0, false},
		"one that stays":       {pairs(4, 4), 9, pairs(9, 4), 0, 0, 0, true},
		"one that stays, not":  {pairs(4, 4), 9, pairs(4, 9), 0, 0, 0, false},
	} {
		n, e := ssa.Least(x.l)
		s, g := ssa.Sequence(x.l, x.spare)
		is, h := ssa.CheckSequence(x.l, x.spare, x.s)
		if e != x.least || g != x.moves || h != x.checks || is != x.is || e != api.OK && n != 0 || g != api.OK && len(s) > 0 {
			t.Errorf("K5: %s: %d, %d, %v, %d, %v, %d", name, n, e, s, g, is, h)
		}
	}
}
