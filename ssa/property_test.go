package ssa_test

import (
	"math/rand/v2"
	"slices"
	"testing"

	"argus/api"
	"argus/dom"
	"argus/flow"
	"argus/sample"
	"argus/ssa"
)

// argsOf returns arguments for the first flow of a list.
func argsOf(r *rand.Rand, l []api.Flow) []int {
	var args []int
	for range l[0].Args {
		args = append(args, sample.Pick[int](r, r.IntN(5)-1, r.IntN(5)-1, r.IntN(100), api.MaxInt, -api.MaxInt))
	}
	return args
}

// with returns a list with another flow in the place of one.
func replaced(l []api.Flow, i int, f api.Flow) []api.Flow {
	l = slices.Clone(l)
	l[i] = f
	return l
}

// runsSame compares runs of two lists, steps included, and says how many were neither stuck nor spent.
func runsSame(t *testing.T, what string, r *rand.Rand, a, b []api.Flow) int {
	t.Helper()
	n := 0
	for range 3 {
		args, steps := argsOf(r, a), sample.Pick[int](r, r.IntN(40), 1000)
		x, e := flow.Run(a, a[0].Name, args, steps)
		y, g := flow.Run(b, b[0].Name, args, steps)
		if e != g || e == api.ErrArg || !same(x, y) {
			t.Fatalf("%s: %v, %d, not %v, %d: %v of %+v, of %+v", what, y, g, x, e, args, b, a)
		}
		if x.Kind == api.RanDone || x.Kind == api.RanSignal {
			n++
		}
	}
	return n
}

// runsAlike compares what runs of two lists come to, if neither is spent, and says how many these were.
func runsAlike(t *testing.T, what string, r *rand.Rand, a, b []api.Flow) int {
	t.Helper()
	n := 0
	for range 3 {
		args := argsOf(r, a)
		x, e := flow.Run(a, a[0].Name, args, 2000)
		y, g := flow.Run(b, b[0].Name, args, 8000)
		if e == api.ErrArg || g == api.ErrArg {
			t.Fatalf("%s: %d, %d of %+v, of %+v", what, e, g, a, b)
		}
		if x.Kind == api.RanSpent || y.Kind == api.RanSpent {
			continue
		}
		if x.Steps, y.Steps = 0, 0; e != g || !same(x, y) {
			t.Fatalf("%s: %v, %d, not %v, %d: %v of %+v, of %+v", what, y, g, x, e, args, b, a)
		}
		n++
	}
	return n
}

// P11.1, P11.3: Into gives a flow that comes from the one that it is given; there are no more registers than there have to be.
func TestIntoByChance(t *testing.T) {
	t.Parallel()
	counts := map[string]int{}
	straightTrials(t, 1, 1500, func(r *rand.Rand, l []api.Flow) {
		for _, f := range l {
			g := into(t, f)
			if !comesFrom(f, g.Flow, g.origins) {
				t.Fatalf("K2: %v, %+v of %+v", g.origins, g.Flow, f)
			}
			if is := must[bool](t, f)(ssa.CheckInto(f, g.Flow, g.origins)); !is {
				t.Fatalf("P11.3: %v, %+v of %+v", g.origins, g.Flow, f)
			}
			most := f.Args + len(f.Blocks)*len(f.Regs)
			for _, b := range f.Blocks {
				for _, x := range b.Ins {
					if flow.Writes(x) >= 0 {
						most++
					}
				}
				if flow.WritesEnd(b.End) >= 0 {
					most++
				}
			}
			if len(g.Regs) > most {
				t.Fatalf("K2: %d registers, not %d: %+v", len(g.Regs), most, f)
			}
			counts["phis"] += must[int](t, f)(ssa.Phis(g.Flow))
			if len(counted(f)) < len(f.Blocks) {
				counts["out"]++
			}
		}
	})
	if counts["phis"] < 1000 || counts["out"] < 300 {
		t.Errorf("%v", counts)
	}
}

// P11.1: CheckInto is as a second way has it, for flows that come from another one in several ways, and for changed ones.
func TestCheckIntoByChance(t *testing.T) {
	t.Parallel()
	seen := map[bool]int{}
	straightTrials(t, 2, 500, func(r *rand.Rand, l []api.Flow) {
		for _, f := range l {
			for i, g := range []form{into(t, f), allForm(f)} {
				if i == 1 && ssa.Check(g.Flow) != api.OK {
					continue
				}
				if is := must[bool](t, f)(ssa.CheckInto(f, g.Flow, g.origins)); !is {
					t.Fatalf("K2: %v, %+v of %+v", g.origins, g.Flow, f)
				}
				for range 8 {
					h := changedForm(r, g)
					is := must[bool](t, f)(ssa.CheckInto(f, h.Flow, h.origins))
					if is != comesFrom(f, h.Flow, h.origins) {
						t.Fatalf("K2: %v: %v, %+v of %+v", is, h.origins, h.Flow, f)
					}
					seen[is]++
				}
			}
		}
	})
	if seen[true] < 1500 || seen[false] < 2500 {
		t.Errorf("%v", seen)
	}
}

// changedForm returns a form that may come from the same flow, or not.
func changedForm(r *rand.Rand, g form) form {
	g.Flow, g.origins = copiedFlow(g.Flow), slices.Clone(g.origins)
	for range 1 + r.IntN(2) {
		switch k := r.IntN(12); k {
		case 0:
			g.Flow = sample.Changed(r, g.Flow)
		case 1:
			if n := len(g.origins); n > 0 && r.IntN(4) > 0 {
				i := r.IntN(n)
				g.origins[i] = sample.Pick(r, g.origins[r.IntN(n)], -1, n, 1<<62)
			} else {
				g.origins = append(g.origins, 0)
			}
		case 2:
			// A register that nothing reads.
			if n := min(len(g.Regs), len(g.origins)); n > 0 {
				i := r.IntN(n)
				g.Regs, g.origins = append(g.Regs, g.Regs[i]), append(g.origins, g.origins[i])
			}
		case 3:
			g = renamed(r, g)
		case 4, 5:
			if h, e := ssa.Lean(g.Flow); e == api.OK {
				g.Flow = h
			}
		case 6, 7, 8:
			g.Flow = otherRead(r, g)
		case 9:
			g.Flow = withPhi(r, g.Flow)
		default:
			g.Flow = withoutPhi(r, g.Flow)
		}
	}
	return g
}

// renamed returns a form whose registers, but for the arguments, have other numbers.
func renamed(r *rand.Rand, g form) form {
	to := make([]int, len(g.Regs))
	for i := range to {
		to[i] = i
	}
	if g.Args < 0 || g.Args > len(to) || len(g.origins) != len(to) {
		return g
	}
	rest := to[g.Args:]
	r.Shuffle(len(rest), func(i, j int) { rest[i], rest[j] = rest[j], rest[i] })
	f, e := flow.Renamed(g.Flow, to)
	if e != api.OK {
		return g
	}
	origins := make([]int, len(to))
	for i, reg := range to {
		origins[reg] = g.origins[i]
	}
	return form{f, origins}
}

// otherRead returns a flow in which something reads another register, of the same origin if that is possible.
func otherRead(r *rand.Rand, g form) api.Flow {
	if len(g.Regs) == 0 || len(g.origins) != len(g.Regs) {
		return g.Flow
	}
	at, n := r.IntN(60), 0
	return change{func(reg int) int {
		if n++; n != at || reg < 0 || reg >= len(g.Regs) {
			return reg
		}
		l := []int{reg}
		for other, origin := range g.origins {
			if origin == g.origins[reg] {
				l = append(l, other)
			}
		}
		return sample.Pick(r, l...)
	}, func(reg int) int { return reg }}.flow(g.Flow)
}

// withPhi returns a flow with one phi twice.
func withPhi(r *rand.Rand, f api.Flow) api.Flow {
	if len(f.Blocks) == 0 {
		return f
	}
	b := &f.Blocks[r.IntN(len(f.Blocks))]
	if len(b.Ins) > 0 && b.Ins[0].Op == api.InsPhi {
		b.Ins = slices.Insert(b.Ins, 0, copied(b.Ins[0]))
	}
	return f
}

// withoutPhi returns a flow without one phi, in the place of whose To something else is read.
func withoutPhi(r *rand.Rand, f api.Flow) api.Flow {
	if len(f.Blocks) == 0 {
		return f
	}
	b := &f.Blocks[r.IntN(len(f.Blocks))]
	n := 0
	for n < len(b.Ins) && b.Ins[n].Op == api.InsPhi {
		n++
	}
	if n == 0 {
		return f
	}
	i := r.IntN(n)
	x := b.Ins[i]
	b.Ins = slices.Delete(b.Ins, i, i+1)
	if len(x.Args) == 0 {
		return f
	}
	instead := sample.Pick(r, x.Args...)
	return both(func(reg int) int {
		if reg == x.To {
			return instead
		}
		return reg
	}).flow(f)
}

// P11.2: runs with a flow that comes from another one are the same, steps included; also with some that were changed.
func TestRunsOfForms(t *testing.T) {
	t.Parallel()
	ran, changed := 0, 0
	straightTrials(t, 3, 600, func(r *rand.Rand, l []api.Flow) {
		all := slices.Clone(l)
		for i, f := range l {
			g := into(t, f)
			all[i] = g.Flow
			for range 6 {
				h := changedForm(r, sample.Pick(r, g, g, allForm(f)))
				if is, e := ssa.CheckInto(f, h.Flow, h.origins); is && e == api.OK {
					runsSame(t, "P11.2", r, l, replaced(l, i, h.Flow))
					changed++
				}
			}
		}
		ran += runsSame(t, "P11.2", r, l, all)
	})
	if ran < 600 || changed < 1200 {
		t.Errorf("only %d, %d", ran, changed)
	}
}

// P11.3: there and back it does the same, without phis.
func TestThereAndBack(t *testing.T) {
	t.Parallel()
	ran := 0
	straightTrials(t, 4, 900, func(r *rand.Rand, l []api.Flow) {
		back := slices.Clone(l)
		for i, f := range l {
			back[i] = must[api.Flow](t, f)(ssa.Out(into(t, f).Flow))
			if is := must[bool](t, back[i])(flow.Plain(back[i])); !is {
				t.Fatalf("P11.3: %+v", back[i])
			}
		}
		ran += runsAlike(t, "P11.3", r, l, back)
	})
	if ran < 900 {
		t.Errorf("only %d", ran)
	}
}

// forms gives lists of flows in SSA form, one of which was made by chance so that its phis stand in each other's way: it
// reads what was moved in the place of copies, its phis have other Args, and it need not be straight.
func forms(t *testing.T, seed uint64, n int, do func(r *rand.Rand, l []api.Flow, i int)) {
	straightTrials(t, seed, n, func(r *rand.Rand, l []api.Flow) {
		i := r.IntN(len(l))
		f := sample.Pick(r, into(t, l[i]), allForm(l[i])).Flow
		if flow.Check(f) != api.OK {
			return
		}
		f = withoutMoves(f)
		for range 12 {
			g := crossed(r, f)
			if _, e := flow.CheckAll(replaced(l, i, g)); e == api.OK && ssa.Check(g) == api.OK {
				f = g
			}
		}
		do(r, replaced(l, i, f), i)
	})
}

// withoutMoves returns a flow in which what a move reads stands in the place of what it writes.
func withoutMoves(f api.Flow) api.Flow {
	for b := range f.Blocks {
		for i, x := range f.Blocks[b].Ins {
			if x.Op == api.InsMove {
				f = copiedFlow(f)
				f.Blocks[b].Ins = slices.Delete(f.Blocks[b].Ins, i, i+1)
				return withoutMoves(both(func(reg int) int {
					if reg == x.To {
						return x.A
					}
					return reg
				}).flow(f))
			}
		}
	}
	return f
}

// crossed returns a flow in SSA form that may not be valid: two registers stand for each other at some place, or an end leads
// elsewhere.
func crossed(r *rand.Rand, f api.Flow) api.Flow {
	f = copiedFlow(f)
	b := &f.Blocks[r.IntN(len(f.Blocks))]
	n := 0
	for n < len(b.Ins) && b.Ins[n].Op == api.InsPhi {
		n++
	}
	if n > 0 && len(b.Ins[0].Args) > 0 && r.IntN(3) > 0 {
		x, y := &b.Ins[r.IntN(n)], &b.Ins[r.IntN(n)]
		i := r.IntN(len(x.Args))
		switch r.IntN(3) {
		case 0:
			x.Args[i], y.Args[i] = y.Args[i], x.Args[i]
		case 1:
			x.Args[i] = y.To
		case 2:
			x.Args[i] = r.IntN(len(f.Regs))
		}
		return f
	}
	if len(b.Ins) > n && r.IntN(2) == 0 {
		x := &b.Ins[n+r.IntN(len(b.Ins)-n)]
		*x = change{func(reg int) int { return sample.Pick(r, reg, r.IntN(len(f.Regs))) }, func(reg int) int { return reg }}.ins(*x)
		return f
	}
	b.End = change{func(reg int) int { return sample.Pick(r, reg, r.IntN(len(f.Regs))) }, func(reg int) int { return reg }}.end(b.End)
	if to := r.IntN(len(f.Blocks)); r.IntN(3) == 0 {
		if len(b.End.Whens) > 0 {
			b.End.Whens[0].To = sample.Pick(r, b.End.To, to)
		} else {
			b.End.To = to
		}
	}
	return f
}

// P11.1: Out of any flow in SSA form does the same, whatever its phis are.
func TestOutByChance(t *testing.T) {
	t.Parallel()
	ran, phis := 0, 0
	forms(t, 5, 2400, func(r *rand.Rand, l []api.Flow, i int) {
		f := must[api.Flow](t, l[i])(ssa.Out(l[i]))
		if is := must[bool](t, f)(flow.Plain(f)); !is {
			t.Fatalf("K3: %+v", f)
		}
		head, want := f, l[i]
		head.Blocks, head.Regs, head.Slots, want.Blocks, want.Regs, want.Slots = nil, nil, nil, nil, nil, nil
		if !same(head, want) {
			t.Fatalf("K3: %+v of %+v", f, l[i])
		}
		ran += runsAlike(t, "K3", r, l, replaced(l, i, f))
		phis += phiCount(l[i])
	})
	if ran < 1500 || phis < 5000 {
		t.Errorf("only %d, %d", ran, phis)
	}
}

// P11.1, P11.4: Lean is as a second way has it, in SSA form, and does the same, steps included.
func TestLeanByChance(t *testing.T) {
	t.Parallel()
	ran, gone := 0, 0
	forms(t, 6, 1500, func(r *rand.Rand, l []api.Flow, i int) {
		f := l[i]
		g := must[api.Flow](t, f)(ssa.Lean(f))
		if want := plainLean(f); !same(g, want) {
			t.Fatalf("K4: %+v, not %+v of %+v", g, want, f)
		}
		if e := ssa.Check(g); e != api.OK {
			t.Fatalf("P11.4: %d: %+v of %+v", e, g, f)
		}
		if again := must[api.Flow](t, g)(ssa.Lean(g)); !same(again, g) {
			t.Fatalf("P11.4: %+v of %+v", again, g)
		}
		before, after := must[int](t, f)(ssa.Phis(f)), must[int](t, g)(ssa.Phis(g))
		if before != phiCount(f) || after > before {
			t.Fatalf("P11.4: %d, %d: %+v", before, after, f)
		}
		gone += before - after
		ran += runsSame(t, "P11.4", r, l, replaced(l, i, g))
	})
	if ran < 1000 || gone < 5000 {
		t.Errorf("only %d, %d", ran, gone)
	}
}

// P11.4: Lean of a flow that comes from another one comes from it, too. Where no circle can be entered at two places, it has
// no more phis that are read than Into has: those of Into are needed.
func TestLeanOfForms(t *testing.T) {
	t.Parallel()
	straightTrials(t, 7, 900, func(r *rand.Rand, l []api.Flow) {
		for _, f := range l {
			g, all := into(t, f), allForm(f)
			if ssa.Check(all.Flow) != api.OK {
				continue
			}
			for _, x := range []form{g, all} {
				lean := must[api.Flow](t, f)(ssa.Lean(x.Flow))
				if is := must[bool](t, f)(ssa.CheckInto(f, lean, x.origins)); !is || !comesFrom(f, lean, x.origins) {
					t.Fatalf("P11.4: %+v of %+v", lean, f)
				}
			}
			if lean := must[api.Flow](t, f)(ssa.Lean(g.Flow)); !same(lean, g.Flow) {
				t.Fatalf("K2: more phis than are needed: %+v of %+v", g.Flow, f)
			}
			lean := must[api.Flow](t, f)(ssa.Lean(all.Flow))
			isSimple := must[bool](t, f)(dom.Reducible(f)) && len(counted(f)) == len(f.Blocks)
			if n := readPhis(t, lean); n < phiCount(g.Flow) || isSimple && n > phiCount(g.Flow) {
				t.Fatalf("K2: %d phis, not %d: %+v of %+v", phiCount(g.Flow), n, g.Flow, f)
			}
		}
	})
}

// readPhis returns how many phis, in blocks to which some way leads, have a To that is read, not only by phis that are not.
func readPhis(t *testing.T, f api.Flow) int {
	t.Helper()
	counts := must[[]bool](t, f)(dom.Reach(f))
	args, isRead := map[int][]int{}, map[int]bool{}
	var read func(l []int)
	read = func(l []int) {
		for _, reg := range l {
			if !isRead[reg] {
				isRead[reg] = true
				read(args[reg])
			}
		}
	}
	for b := range f.Blocks {
		for _, x := range f.Blocks[b].Ins {
			if counts[b] && x.Op == api.InsPhi {
				args[x.To] = x.Args
			}
		}
	}
	for b := range f.Blocks {
		if counts[b] {
			for _, x := range f.Blocks[b].Ins {
				read(flow.Reads(x))
			}
			read(flow.ReadsEnd(f.Blocks[b].End))
		}
	}
	n := 0
	for to := range args {
		if isRead[to] {
			n++
		}
	}
	return n
}

// P11.5: for all sets of moves over four registers: Sequence has just Least moves, which is as few as there can be.
func TestAllSmallSets(t *testing.T) {
	t.Parallel()
	for number := range 5 * 5 * 5 * 5 {
		var l []api.Pair
		for reg, n := 0, number; reg < 4; reg, n = reg+1, n/5 {
			if n%5 < 4 {
				l = append(l, api.Pair{To: reg, From: n % 5})
			}
		}
		askMoves(t, l, 4)
		least, _ := ssa.Least(l)
		if want := plainLeast(l); least != want {
			t.Fatalf("K5: %v: %d, not %d", l, least, want)
		}
	}
}

// askMoves looks at the sequence of a set of moves.
func askMoves(t *testing.T, l []api.Pair, spare int) {
	t.Helper()
	least, e := ssa.Least(l)
	s, g := ssa.Sequence(l, spare)
	is, h := ssa.CheckSequence(l, spare, s)
	if e != api.OK || g != api.OK || h != api.OK || len(s) != least || !is || !plainDoes(s, l, spare) {
		t.Fatalf("P11.5: %v: %d, %v, %v: %d, %d, %d", l, least, s, is, e, g, h)
	}
	moves := 0
	for _, m := range l {
		if m.To != m.From {
			moves++
		}
	}
	if usesSpare := slices.ContainsFunc(s, func(m api.Pair) bool { return m.To == spare || m.From == spare }); usesSpare != (least > moves) {
		t.Fatalf("P11.5: %v: %v", l, s)
	}
}

// someMoves returns a set of moves by chance.
func someMoves(r *rand.Rand, most int) []api.Pair {
	regs := r.Perm(1 + r.IntN(most))
	var l []api.Pair
	for i, to := range regs {
		from := regs[r.IntN(len(regs))]
		if r.IntN(3) > 0 {
			from = regs[(i+1)%(1+len(regs)/2)]
		}
		if r.IntN(8) > 0 {
			l = append(l, api.Pair{To: to, From: from})
		}
	}
	r.Shuffle(len(l), func(i, j int) { l[i], l[j] = l[j], l[i] })
	return l
}

// P11.1, P11.5: larger sets, with circles; and CheckSequence as a second way has it, for lists that were changed.
func TestMovesByChance(t *testing.T) {
	t.Parallel()
	seen := map[bool]int{}
	for i := range 3000 {
		r := rand.New(rand.NewPCG(8, uint64(i)))
		l := someMoves(r, sample.Pick[int](r, 6, 12, 100))
		spare := 100 + r.IntN(3)
		askMoves(t, l, spare)
		if want := len(l) + alone(l); mustLeast(t, l) != want-selves(l) {
			t.Fatalf("K5: %v: %d, not %d", l, mustLeast(t, l), want-selves(l))
		}
		s, _ := ssa.Sequence(l, spare)
		for range 10 {
			x := changedMoves(r, s, spare)
			is, e := ssa.CheckSequence(l, spare, x)
			if e != api.OK || is != plainDoes(x, l, spare) {
				t.Fatalf("K5: %v, %v: %v, %d", l, x, is, e)
			}
			if is && len(x) < len(s) {
				t.Fatalf("P11.5: %v: %v", l, x)
			}
			seen[is]++
		}
	}
	if seen[true] < 3000 || seen[false] < 3000 {
		t.Errorf("%v", seen)
	}
}

func mustLeast(t *testing.T, l []api.Pair) int {
	t.Helper()
	n, e := ssa.Least(l)
	if e != api.OK {
		t.Fatalf("K5: %d", e)
	}
	return n
}

// selves returns how many moves are of a register with itself.
func selves(l []api.Pair) int {
	n := 0
	for _, m := range l {
		if m.To == m.From {
			n++
		}
	}
	return n
}

// alone returns how many circles stand alone.
func alone(l []api.Pair) int {
	from := map[int]int{}
	for _, m := range l {
		from[m.To] = m.From
	}
	n := 0
	for _, m := range l {
		circle := map[int]bool{m.To: true}
		reg, isIn := from[m.To]
		for isIn && !circle[reg] {
			circle[reg] = true
			reg, isIn = from[reg]
		}
		least := m.To
		for x := range circle {
			least = min(least, x)
		}
		isRead := func(x api.Pair) bool { return circle[x.From] && !circle[x.To] }
		if isIn && reg == m.To && least == m.To && len(circle) > 1 && !slices.ContainsFunc(l, isRead) {
			n++
		}
	}
	return n
}

// changedMoves returns moves that may do the same, or not.
func changedMoves(r *rand.Rand, s []api.Pair, spare int) []api.Pair {
	s = slices.Clone(s)
	for range 1 + r.IntN(2) {
		n := len(s)
		if n == 0 {
			return pairs(spare, r.IntN(5)-2)
		}
		i, j := r.IntN(n), r.IntN(n)
		switch r.IntN(7) {
		case 0:
			s[i], s[j] = s[j], s[i]
		case 1:
			s = slices.Delete(s, i, i+1)
		case 2:
			s = slices.Insert(s, i, s[i])
		case 3:
			s[i].From = sample.Pick(r, s[j].From, s[j].To, spare, -1, -1<<63)
		case 4:
			s[i].To = sample.Pick(r, s[j].From, s[j].To, spare, -1, 1<<62)
		case 5:
			s = slices.Insert(s, i, api.Pair{To: spare, From: s[j].To})
		case 6:
			s = append(s, api.Pair{To: s[j].To, From: s[j].To})
		}
	}
	return s
}

// P11.1, P11.6: Straight is as a second way has it; runs with it are the same, but for the steps.
func TestStraightByChance(t *testing.T) {
	t.Parallel()
	ran, changed := 0, 0
	trials(9, 1500, func(r *rand.Rand, l []api.Flow) {
		g := slices.Clone(l)
		for i, f := range l {
			if r.IntN(2) == 0 {
				f = bent(r, f)
				l[i] = f
			}
			g[i] = must[api.Flow](t, f)(ssa.Straight(f))
			if want := plainStraight(f); !same(g[i], want) || !isStraight(g[i]) {
				t.Fatalf("K2: %+v, not %+v of %+v", g[i], want, f)
			}
			if again := must[api.Flow](t, g[i])(ssa.Straight(g[i])); !same(again, g[i]) {
				t.Fatalf("P11.6: %+v of %+v", again, g[i])
			}
			_, _, e := ssa.Into(f)
			if is := isStraight(f); is != (e == api.OK) || !is && e != api.ErrWays || is != same(f, g[i]) {
				t.Fatalf("K2: %d of %+v", e, f)
			}
			if !isStraight(f) {
				changed++
			}
		}
		ran += runsAlike(t, "P11.6", r, l, g)
	})
	if ran < 1500 || changed < 1000 {
		t.Errorf("only %d, %d", ran, changed)
	}
}

// bent returns a flow in which an end leads to its To in another way, too, or to the block 0.
func bent(r *rand.Rand, f api.Flow) api.Flow {
	for range 5 {
		g := copiedFlow(f)
		e := &g.Blocks[r.IntN(len(g.Blocks))].End
		switch k := r.IntN(5); {
		case k == 0 && len(e.Whens) > 0:
			e.Whens[len(e.Whens)-1].To = e.To
		case k == 1 && e.Others >= 0:
			e.Others = e.To
		case k == 2 && e.Kind == api.EndNext:
			e.Else = e.To
		case k == 3:
			e.To = 0
		case k == 4 && len(e.Whens) > 0:
			e.Whens[0].To = 0
		}
		if flow.Check(g) == api.OK {
			f = g
		}
	}
	return f
}

// P11.7: with other numbers a flow in SSA form is in SSA form.
func TestNamesByChance(t *testing.T) {
	t.Parallel()
	forms(t, 10, 600, func(r *rand.Rand, l []api.Flow, i int) {
		f := l[i]
		g := renamed(r, form{f, make([]int, len(f.Regs))}).Flow
		if e := ssa.Check(g); e != api.OK {
			t.Fatalf("P11.7: %d: %+v of %+v", e, g, f)
		}
		to := []int{0}
		for _, b := range r.Perm(len(f.Blocks) - 1) {
			to = append(to, b+1)
		}
		h, e := flow.Moved(f, to)
		if g := ssa.Check(h); e != api.OK || g != api.OK {
			t.Fatalf("P11.7: %d, %d: %v of %+v", e, g, to, f)
		}
	})
}

// P11.1: Check is as a second way has it.
func TestChecksByChance(t *testing.T) {
	t.Parallel()
	seen := map[api.Errno]int{}
	ask := func(f api.Flow) {
		want := flow.Check(f)
		if want == api.OK && !isForm(f) {
			want = api.ErrSsa
		}
		if e := ssa.Check(f); e != want {
			t.Fatalf("K1: %d, not %d: %+v", e, want, f)
		}
		seen[want]++
	}
	straightTrials(t, 11, 600, func(r *rand.Rand, l []api.Flow) {
		for _, f := range l {
			ask(f)
			g := into(t, f)
			for range 5 {
				ask(g.Flow)
				g = changedForm(r, g)
				// One place more that writes.
				if b := &g.Blocks[r.IntN(len(g.Blocks))]; r.IntN(3) == 0 && len(g.Regs) > 0 {
					b.Ins = append(b.Ins, number(r.IntN(len(g.Regs)), 1))
				}
			}
		}
	})
	for _, e := range []api.Errno{api.OK, api.ErrSsa, api.ErrFlow, api.ErrRead} {
		if seen[e] < 100 {
			t.Errorf("%v", seen)
		}
	}
}
