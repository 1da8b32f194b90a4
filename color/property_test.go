package color_test

import (
	"math/rand/v2"
	"slices"
	"testing"

	"argus/api"
	"argus/color"
	"argus/dom"
	"argus/flow"
	"argus/sample"
	"argus/ssa"
)

var kinds = [...]uint8{api.RegWord, api.RegRef, api.RegIter}

// P14.1, P14.3: what meets, the pressures and the crowds are as a second way has it.
func TestMeetingByChance(t *testing.T) {
	t.Parallel()
	meeting, apart, greatest := 0, 0, 0
	forms(t, 1, 300, func(r *rand.Rand, f api.Flow) {
		p := newPlain(f)
		for range 60 {
			a, b := r.IntN(len(f.Regs)), r.IntN(len(f.Regs))
			one := must[bool](t, f)(color.Meet(f, a, b))
			two := must[bool](t, f)(color.Meet(f, b, a))
			if want := p.meet(a, b); one != want || two != want {
				t.Fatalf("N1, P14.3: %d, %d: %v, %v, not %v: %+v", a, b, one, two, want, f)
			}
			if one {
				meeting++
			} else if a != b && f.Regs[a] == f.Regs[b] {
				apart++
			}
		}
		for _, kind := range kinds {
			want := p.pressure(kind)
			if n := must[int](t, f)(color.Pressure(f, kind)); n != want {
				t.Fatalf("N1: %d: %d, not %d: %+v", kind, n, want, f)
			}
			crowd := must[[]int](t, f)(color.Crowd(f, kind))
			isThere := slices.ContainsFunc(p.crowds(kind), func(l []int) bool { return slices.Equal(l, crowd) })
			if len(crowd) != want || !isThere && want > 0 {
				t.Fatalf("N3: %v, %d: %+v", crowd, want, f)
			}
			greatest = max(greatest, want)
		}
	})
	if meeting < 2000 || apart < 6000 || greatest < 8 {
		t.Errorf("%d, %d, %d", meeting, apart, greatest)
	}
}

// P14.1, P14.2: a colouring is right, and needs of each kind as many numbers as a crowd has registers; fewer do not suffice.
func TestColoursByChance(t *testing.T) {
	t.Parallel()
	tried := 0
	forms(t, 2, 400, func(r *rand.Rand, f api.Flow) {
		p := newPlain(f)
		c := must[[]int](t, f)(color.Color(f))
		if is := must[bool](t, f)(color.CheckColor(f, c)); !is || !p.isRight(c) {
			t.Fatalf("P14.2: %v, %v: %+v", c, is, f)
		}
		for reg, n := range c {
			if n != 0 && !p.counts(reg) {
				t.Fatalf("N2: %d has %d: %+v", reg, n, f)
			}
		}
		for _, kind := range kinds {
			n := must[int](t, f)(color.Needs(f, c, kind))
			crowd := must[[]int](t, f)(color.Crowd(f, kind))
			if is := must[bool](t, f)(color.CheckCrowd(f, kind, crowd)); !is || !p.isCrowd(kind, crowd) || n != len(crowd) || n != p.pressure(kind) {
				t.Fatalf("P14.2: %d: %v, %v, %d: %+v", kind, crowd, is, n, f)
			}
			if len(f.Regs) < 20 {
				if least := p.least(kind); least != n {
					t.Fatalf("P14.2: %d: %d, not %d: %+v", kind, n, least, f)
				}
				tried++
			}
		}
	})
	if tried < 300 {
		t.Errorf("only %d", tried)
	}
}

// otherColours returns a list that may be a right colouring.
func otherColours(r *rand.Rand, f api.Flow, c []int) []int {
	c = slices.Clone(c)
	for range 1 + r.IntN(3) {
		if len(c) == 0 || r.IntN(20) == 0 {
			c = append(c, r.IntN(3))
			continue
		}
		i := r.IntN(len(c))
		switch r.IntN(10) {
		case 0:
			c = slices.Delete(c, i, i+1)
		case 1:
			c[i] = sample.Pick(r, -1, -1<<63, 1<<40, 1<<63-1, 1<<63-2)
		case 2, 3:
			j := r.IntN(len(c))
			c[i], c[j] = c[j], c[i]
		case 4:
			// Two colours change places: it stays right, unless arguments have one of them.
			kind, one, two := f.Regs[min(i, len(f.Regs)-1)], r.IntN(5), r.IntN(5)
			for reg := range min(len(c), len(f.Regs)) {
				if f.Regs[reg] == kind && c[reg] == one {
					c[reg] = two
				} else if f.Regs[reg] == kind && c[reg] == two {
					c[reg] = one
				}
			}
		default:
			c[i] = r.IntN(10)
		}
	}
	return c
}

// P14.1, P14.2: CheckColor and Needs are as a second way has it, and no right colouring needs fewer numbers than a crowd has.
func TestCheckColorByChance(t *testing.T) {
	t.Parallel()
	seen, tooMany := map[bool]int{}, 0
	forms(t, 3, 300, func(r *rand.Rand, f api.Flow) {
		p := newPlain(f)
		best := must[[]int](t, f)(color.Color(f))
		for range 20 {
			c := otherColours(r, f, best)
			is, want := must[bool](t, f)(color.CheckColor(f, c)), p.isRight(c)
			if is != want {
				t.Fatalf("N2: %v: %v: %+v", c, is, f)
			}
			seen[is]++
			for _, kind := range kinds {
				n, e := color.Needs(f, c, kind)
				needs, isSaid := 0, false
				if want {
					needs, isSaid = p.needs(c, kind)
				}
				switch {
				case want && !isSaid && e == api.ErrLimit && n == 0:
					tooMany++
				case !want && (e != api.ErrArg || n != 0):
					t.Fatalf("N2: %v: %d, %d: %+v", c, n, e, f)
				case want && (!isSaid || e != api.OK || n != needs || n < p.pressure(kind)):
					t.Fatalf("N2, P14.2: %v: %d, %d: %+v", c, n, e, f)
				}
			}
		}
	})
	if seen[true] < 700 || seen[false] < 2500 || tooMany < 5 {
		t.Errorf("%v, %d", seen, tooMany)
	}
}

// P14.1, P14.2: CheckCrowd is as a second way has it; no list that it accepts has more registers than a greatest crowd.
func TestCheckCrowdByChance(t *testing.T) {
	t.Parallel()
	seen := map[bool]int{}
	forms(t, 4, 300, func(r *rand.Rand, f api.Flow) {
		p := newPlain(f)
		for range 30 {
			kind := kinds[r.IntN(len(kinds))]
			l := must[[]int](t, f)(color.Crowd(f, kind))
			for range r.IntN(4) {
				switch k := r.IntN(6); {
				case k == 0 || len(l) == 0:
					l = append(l, r.IntN(len(f.Regs)))
				case k == 1:
					l[r.IntN(len(l))] = sample.Pick(r, -1, len(f.Regs), 1<<62, -1<<63, r.IntN(len(f.Regs)))
				case k == 2:
					r.Shuffle(len(l), func(i, j int) { l[i], l[j] = l[j], l[i] })
				case k == 3:
					l = append(l, r.IntN(len(f.Regs)))
					slices.Sort(l)
				case k == 4:
					l = append(l, l[len(l)-1])
				default:
					i := r.IntN(len(l))
					l = slices.Delete(l, i, i+1)
				}
			}
			is := must[bool](t, f)(color.CheckCrowd(f, kind, l))
			if is != p.isCrowd(kind, l) {
				t.Fatalf("N3: %d: %v: %v: %+v", kind, l, is, f)
			}
			if is && len(l) > max(p.pressure(kind), 1) {
				t.Fatalf("P14.2: %d: %v: %+v", kind, l, f)
			}
			if len(l) > 1 {
				seen[is]++
			}
		}
	})
	if seen[true] < 700 || seen[false] < 2500 {
		t.Errorf("%v", seen)
	}
}

// P14.3: with other numbers of registers and blocks the pressures are the same, and so is what meets.
func TestNamesByChance(t *testing.T) {
	t.Parallel()
	forms(t, 5, 300, func(r *rand.Rand, f api.Flow) {
		regs, blocks := shuffled(r, len(f.Regs), f.Args), shuffled(r, len(f.Blocks), 1)
		g := must[api.Flow](t, f)(flow.Renamed(f, regs))
		g = must[api.Flow](t, g)(flow.Moved(g, blocks))
		for _, kind := range kinds {
			one, two := must[int](t, f)(color.Pressure(f, kind)), must[int](t, g)(color.Pressure(g, kind))
			if one != two {
				t.Fatalf("P14.3: %d: %d, %d: %+v", kind, one, two, f)
			}
		}
		for range 20 {
			a, b := r.IntN(len(f.Regs)), r.IntN(len(f.Regs))
			one, two := must[bool](t, f)(color.Meet(f, a, b)), must[bool](t, g)(color.Meet(g, regs[a], regs[b]))
			if one != two {
				t.Fatalf("P14.3: %d, %d: %v, %v: %+v", a, b, one, two, f)
			}
		}
	})
}

// shuffled returns the numbers from 0 to less than n, the first ones of which stay.
func shuffled(r *rand.Rand, n, first int) []int {
	l := r.Perm(n)
	slices.Sort(l)
	rest := l[first:]
	r.Shuffle(len(rest), func(i, j int) { rest[i], rest[j] = rest[j], rest[i] })
	return l
}

// runsAlike compares what runs of two lists come to, if neither is spent, and says how many these were.
func runsAlike(t *testing.T, what string, r *rand.Rand, a, b []api.Flow) int {
	t.Helper()
	n := 0
	for range 3 {
		var args []int
		for range a[0].Args {
			args = append(args, sample.Pick[int](r, r.IntN(5)-1, r.IntN(5)-1, r.IntN(100), api.MaxInt, -api.MaxInt))
		}
		x, e := flow.Run(a, a[0].Name, args, 2000)
		y, g := flow.Run(b, b[0].Name, args, 12000)
		if e == api.ErrArg || g == api.ErrArg {
			t.Fatalf("%s: %d, %d of %+v, of %+v", what, e, g, a, b)
		}
		if x.Kind == api.RanSpent || y.Kind == api.RanSpent {
			continue
		}
		if x.Steps, y.Steps = 0, 0; e != g || !same(x, y) {
			t.Fatalf("%s: %v, %d, not %v, %d: %v of %+v, of %+v", what, y, g, x, e, args, b, a)
		}
		n++
	}
	return n
}

// formOf returns a flow without phis in SSA form.
func formOf(t *testing.T, f api.Flow) api.Flow {
	t.Helper()
	f, _, e := ssa.Into(must[api.Flow](t, f)(ssa.Straight(f)))
	if e != api.OK {
		t.Fatalf("K2: %d: %+v", e, f)
	}
	return f
}

// isHeadSame reports whether two flows are the same as far as others see it.
func isHeadSame(f, g api.Flow) bool {
	f.Regs, f.Slots, f.Blocks, g.Regs, g.Slots, g.Blocks = nil, nil, nil, nil, nil, nil
	return same(f, g)
}

// pressures returns those of words and of references.
func pressures(t *testing.T, f api.Flow) (words, refs int) {
	t.Helper()
	return must[int](t, f)(color.Pressure(f, api.RegWord)), must[int](t, f)(color.Pressure(f, api.RegRef))
}

// N4, P14.1: Spill is within the pressures, and does the same; it is the same flow if nothing has to be done.
func TestSpillByChance(t *testing.T) {
	t.Parallel()
	ran, kept, stayed := 0, 0, 0
	crowded(t, 6, 900, 24, func(r *rand.Rand, l []api.Flow, i int) {
		f := l[i]
		words, refs := 8+r.IntN(6), 8+r.IntN(6)
		g := must[api.Flow](t, f)(color.Spill(f, words, refs))
		if e := flow.Check(g); e != api.OK || !must[bool](t, g)(flow.Plain(g)) || !isHeadSame(f, g) {
			t.Fatalf("N4: %d: %+v of %+v", e, g, f)
		}
		if n, m := pressures(t, formOf(t, g)); n > words || m > refs {
			t.Fatalf("N4: %d, %d, not %d, %d: %+v of %+v", n, m, words, refs, g, f)
		}
		areSpared(t, f, g)
		n, m := pressures(t, formOf(t, f))
		switch isDone := n <= words && m <= refs; {
		case isDone && !same(f, g):
			t.Fatalf("N4: there was nothing to do: %+v of %+v", g, f)
		case isDone:
			stayed++
		case len(g.Slots) == 0:
			t.Fatalf("N4: no slots: %+v of %+v", g, f)
		default:
			kept++
		}
		ran += runsAlike(t, "N4", r, l, replaced(l, i, g))
	})
	if ran < 1000 || kept < 400 || stayed < 200 {
		t.Errorf("only %d, %d, %d", ran, kept, stayed)
	}
}

// times returns how many instructions there are with an Op.
func times(f api.Flow, op uint8) int {
	n := 0
	for _, b := range f.Blocks {
		for _, x := range b.Ins {
			if x.Op == op {
				n++
			}
		}
	}
	return n
}

// areSpared asks whether no register is spilled at more places than there are at which it is written.
func areSpared(t *testing.T, f, g api.Flow) {
	t.Helper()
	writes := make([]int, len(f.Regs))
	for i := range f.Args {
		writes[i]++
	}
	note := func(n *names) {
		if n.to >= 0 {
			writes[n.to]++
		}
	}
	for _, b := range f.Blocks {
		for _, x := range b.Ins {
			note(namesOf(x))
		}
		note(namesOfEnd(b.End))
	}
	for reg, n := range writes {
		if spills(g, reg) > n {
			t.Fatalf("N4: %d is spilled twice: %+v of %+v", reg, g, f)
		}
	}
}

// N5, P14.4, P14.5: Allocate does the same with few registers, also with more.
func TestAllocateByChance(t *testing.T) {
	t.Parallel()
	ran, kept, spare := 0, 0, 0
	crowded(t, 7, 900, 24, func(r *rand.Rand, l []api.Flow, i int) {
		f := l[i]
		words, refs := 8+r.IntN(6), 8+r.IntN(6)
		for _, more := range []int{0, r.IntN(20), 1 << 60} {
			g := must[api.Flow](t, f)(color.Allocate(f, words+more, refs+more))
			if e := flow.Check(g); e != api.OK || !must[bool](t, g)(flow.Plain(g)) || !isHeadSame(f, g) {
				t.Fatalf("N5: %d: %+v of %+v", e, g, f)
			}
			for kind, most := range map[uint8]int{api.RegWord: words + more, api.RegRef: refs + more} {
				n, m := must[int](t, g)(color.Used(g, kind)), countOf(g, kind)
				if n > most+1 || m > most+1 || n != m || n != used(g, kind) {
					t.Fatalf("N5, P14.5: %d: %d, %d, not %d: %+v of %+v", kind, n, m, most, g, f)
				}
				if n == most+1 {
					spare++
				}
			}
			if len(g.Slots) > 0 {
				kept++
			}
			ran += runsAlike(t, "P14.4", r, l, replaced(l, i, g))
		}
	})
	if ran < 3000 || kept < 500 || spare < 1 {
		t.Errorf("only %d, %d, %d", ran, kept, spare)
	}
}

// countOf returns how many registers of a kind there are.
func countOf(f api.Flow, kind uint8) int {
	n := 0
	for _, other := range f.Regs {
		if other == kind {
			n++
		}
	}
	return n
}

// P14.4: all flows of a list at once, with moves between registers in circles.
func TestAllocateLists(t *testing.T) {
	t.Parallel()
	ran, moved := 0, 0
	for trial := range 900 {
		r := rand.New(rand.NewPCG(8, uint64(trial)))
		l := someFlows(r, trial)
		all := slices.Clone(l)
		for i := range l {
			l[i] = rotated(r, l[i])
			all[i] = must[api.Flow](t, l[i])(color.Allocate(l[i], 8+r.IntN(3), 8))
			moved += times(all[i], api.InsMove)
		}
		ran += runsAlike(t, "P14.4", r, l, all)
	}
	if ran < 900 || moved < 500 {
		t.Errorf("only %d, %d", ran, moved)
	}
}

// rotated returns a flow with moves that let registers of a kind change places, at the ends of some blocks.
func rotated(r *rand.Rand, f api.Flow) api.Flow {
	f = copiedFlow(f)
	for b := range f.Blocks {
		from := r.IntN(len(f.Regs))
		if kind := f.Regs[from]; kind != api.RegIter && r.IntN(2) == 0 {
			g := copiedFlow(f)
			to := r.IntN(len(g.Regs))
			g.Regs = append(g.Regs, kind)
			x := &g.Blocks[b]
			x.Ins = append(x.Ins, move(len(g.Regs)-1, from), move(from, to), move(to, len(g.Regs)-1))
			if flow.Check(g) == api.OK {
				f = g
			}
		}
	}
	return f
}

// P14.4: loops in which words change places, some of which ends write on the way back.
func TestTurningByChance(t *testing.T) {
	t.Parallel()
	moved := 0
	for trial := range 1500 {
		r := rand.New(rand.NewPCG(11, uint64(trial)))
		f := turning(r)
		g := must[api.Flow](t, f)(color.Allocate(f, 8, 8))
		for n := range 5 {
			doesSame(t, f, g, n)
		}
		if t.Failed() {
			t.Fatalf("P14.4: %+v of %+v", g, f)
		}
		moved += times(g, api.InsMove)
	}
	if moved < 1500 {
		t.Errorf("only %d", moved)
	}
}

// P14.4: words that are needed for a short time each, so that they share slots.
func TestRollingByChance(t *testing.T) {
	t.Parallel()
	shared := 0
	for trial := range 300 {
		r := rand.New(rand.NewPCG(12, uint64(trial)))
		f := rolling(r)
		for _, words := range []int{8, 8 + r.IntN(6)} {
			g, e := color.Spill(f, words, 8)
			if e == api.ErrLimit {
				continue
			}
			if e != api.OK {
				t.Fatalf("N4: %d: %+v of %+v", e, g, f)
			}
			areSpared(t, f, g)
			if n, _ := pressures(t, formOf(t, g)); n > words {
				t.Fatalf("N4: %d, not %d: %+v of %+v", n, words, g, f)
			}
			h := must[api.Flow](t, f)(color.Allocate(f, words, 8))
			for n := range 3 {
				doesSame(t, f, g, n)
				doesSame(t, f, h, n)
			}
			if t.Failed() {
				t.Fatalf("P14.4: %+v, %+v of %+v", g, h, f)
			}
			if keptOf(g) > len(g.Slots) {
				shared++
			}
		}
	}
	if shared < 150 {
		t.Errorf("only %d", shared)
	}
}

// keptOf returns how many registers are kept in slots.
func keptOf(f api.Flow) int {
	kept := map[int]bool{}
	for _, b := range f.Blocks {
		for _, x := range b.Ins {
			if x.Op == api.InsSpill {
				kept[x.A] = true
			}
		}
	}
	return len(kept)
}

// N5: Used is as a second way has it, for flows of all sorts.
func TestUsedByChance(t *testing.T) {
	t.Parallel()
	passed := 0
	ask := func(f api.Flow) {
		for _, kind := range kinds {
			if n := must[int](t, f)(color.Used(f, kind)); n != used(f, kind) {
				t.Fatalf("N5: %d: %d, not %d: %+v", kind, n, used(f, kind), f)
			}
		}
	}
	for trial := range 600 {
		r := rand.New(rand.NewPCG(9, uint64(trial)))
		m := sample.Flows{Chance: r, Phis: true, Slots: true, Wild: true}
		for _, f := range m.List() {
			ask(f)
		}
	}
	forms(t, 10, 600, func(r *rand.Rand, f api.Flow) {
		ask(f)
		if counts := must[[]bool](t, f)(dom.Reach(f)); slices.Contains(counts, false) {
			passed++
		}
	})
	if passed < 50 {
		t.Errorf("only %d", passed)
	}
}
