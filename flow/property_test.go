package flow_test

import (
	"math/rand/v2"
	"slices"
	"testing"

	"argus/api"
	"argus/flow"
)

// P8.1: what is valid is as a second way has it; most of the flows are changed.
func TestChecksByChance(t *testing.T) {
	t.Parallel()
	seen := map[api.Errno]int{}
	trials(1, 300, func(r *rand.Rand, l []api.Flow) {
		for range 30 {
			g := slices.Clone(l)
			for range r.IntN(3) {
				i := r.IntN(len(g))
				g[i] = changed(r, g[i])
			}
			if r.IntN(20) == 0 {
				r.Shuffle(len(g), func(i, j int) { g[i], g[j] = g[j], g[i] })
			}
			for _, f := range g {
				if e := flow.Check(f); e != plainCheck(&f) {
					t.Fatalf("H1: %d, not %d: %+v", e, plainCheck(&f), f)
				}
			}
			at, e := flow.CheckAll(g)
			if i, want := plainCheckAll(g); at != i || e != want {
				t.Fatalf("H1: %d, %d, not %d, %d: %+v", at, e, i, want, g)
			}
			seen[e]++
		}
	})
	for _, e := range []api.Errno{api.OK, api.ErrFlow, api.ErrRead, api.ErrArg, api.ErrCall} {
		if seen[e] < 25 {
			t.Errorf("%v", seen)
		}
	}
}

// P8.1: runs are as those of a second machine.
func TestRunsByChance(t *testing.T) {
	t.Parallel()
	seen := map[string]int{}
	trials(2, 3000, func(r *rand.Rand, l []api.Flow) {
		for range 3 {
			args, steps := argsOf(r, l), []int{r.IntN(40), 300, 3000}[r.IntN(3)]
			a, e := flow.Run(l, l[0].Name, args, steps)
			b, want := plainRun(l, l[0].Name, args, steps)
			if e != want || !same(a, b) {
				t.Fatalf("H2: %s, not %s: %v, %d steps of %+v", showRan(a, e), showRan(b, want), args, steps, l)
			}
			seen[[...]string{"stuck", "done", "signal", "spent"}[a.Kind]]++
		}
	})
	for _, s := range []string{"stuck", "done", "signal", "spent"} {
		if seen[s] < 200 {
			t.Errorf("%v", seen)
		}
	}
}

// P8.2: with more steps a run that is not spent is the same, and one that is spent has put a beginning.
func TestStepsByChance(t *testing.T) {
	t.Parallel()
	trials(3, 500, func(r *rand.Rand, l []api.Flow) {
		args := argsOf(r, l)
		long, e := flow.Run(l, l[0].Name, args, 200)
		for steps := range 60 {
			short, f := flow.Run(l, l[0].Name, args, steps)
			switch {
			case f == api.ErrStuck, f == api.OK && short.Kind != api.RanSpent:
				if f != e || !same(short, long) {
					t.Fatalf("P8.2: %s, not %s: %+v", showRan(short, f), showRan(long, e), l)
				}
			case short.Steps > steps, e == api.OK && (len(short.Put) > len(long.Put) || !slices.Equal(short.Put, long.Put[:len(short.Put)])):
				t.Fatalf("P8.2: %s, not a beginning of %s: %+v", showRan(short, f), showRan(long, e), l)
			}
		}
	})
}

// P8.2: nothing is read that was not written: registers hold other things at first without a change.
// (The second machine has numbers in all registers, so it can tell.)
func TestUnwrittenByChance(t *testing.T) {
	t.Parallel()
	trials(4, 1000, func(r *rand.Rand, l []api.Flow) {
		args := argsOf(r, l)
		a, e := flow.Run(l, l[0].Name, args, 300)
		if e != api.OK || a.Kind == api.RanSpent {
			return
		}
		g := copied(l)
		for i := range g {
			writeAtFirst(r, &g[i])
		}
		if b, f := plainRun(g, g[0].Name, args, 10000); f != api.OK || !slices.Equal(a.Put, b.Put) || a.Value != b.Value || a.Signal != b.Signal {
			t.Fatalf("P8.2: %s, not %s: %+v", showRan(b, f), showRan(a, e), l)
		}
	})
}

// writeAtFirst lets a flow begin with a block that writes all registers of words.
func writeAtFirst(r *rand.Rand, f *api.Flow) {
	to := []int{}
	for i := range f.Blocks {
		to = append(to, i+1)
	}
	first := api.Block{End: goTo(1)}
	for i, kind := range f.Regs[f.Args:] {
		if kind == api.RegWord {
			first.Ins = append(first.Ins, number(f.Args+i, r.IntN(1000)))
		}
	}
	for i := range f.Blocks {
		e := &f.Blocks[i].End
		if s := plainEnds[e.Kind]; s[2] == 'b' {
			e.To = to[e.To]
		}
		if s := plainEnds[e.Kind]; s[3] == 'b' {
			e.Else = to[e.Else]
		}
		for j := range e.Whens {
			e.Whens[j].To = to[e.Whens[j].To]
		}
		if e.Others >= 0 {
			e.Others = to[e.Others]
		}
	}
	f.Blocks = slices.Insert(f.Blocks, 0, first)
}

// permutation returns other numbers, but for the first ones.
func permutation(r *rand.Rand, n, first int) []int {
	to := make([]int, n)
	for i, x := range r.Perm(n - first) {
		to[first+i] = first + x
	}
	for i := range first {
		to[i] = i
	}
	return to
}

func inverse(to []int) []int {
	back := make([]int, len(to))
	for i, x := range to {
		back[x] = i
	}
	return back
}

// P8.3: with other numbers runs are the same, and with the numbers back the flow is as before.
func TestNumbersByChance(t *testing.T) {
	t.Parallel()
	trials(5, 800, func(r *rand.Rand, l []api.Flow) {
		args := argsOf(r, l)
		a, e := flow.Run(l, l[0].Name, args, 500)
		g := copied(l)
		for i, f := range l {
			regs, blocks := permutation(r, len(f.Regs), f.Args), permutation(r, len(f.Blocks), 1)
			renamed, e1 := flow.Renamed(f, regs)
			moved, e2 := flow.Moved(renamed, blocks)
			back, e3 := flow.Moved(moved, inverse(blocks))
			again, e4 := flow.Renamed(back, inverse(regs))
			if e1 != api.OK || e2 != api.OK || e3 != api.OK || e4 != api.OK || !same(again, f) || !same(back, renamed) {
				t.Fatalf("P8.3: %d, %d, %d, %d: %+v", e1, e2, e3, e4, f)
			}
			g[i] = moved
		}
		b, f := flow.Run(g, g[0].Name, args, 500)
		if e != f || !same(a, b) {
			t.Fatalf("P8.3: %s, not %s: %+v", showRan(b, f), showRan(a, e), l)
		}
	})
}

// reached returns the blocks to which some way leads.
func reached(f *api.Flow) map[int]bool {
	found := map[int]bool{0: true}
	waiting := []int{0}
	for len(waiting) > 0 {
		for _, to := range plainTargets(&f.Blocks[waiting[0]].End) {
			if !found[to] {
				found[to] = true
				waiting = append(waiting, to)
			}
		}
		waiting = waiting[1:]
	}
	return found
}

// P8.4: what stands in blocks to which no way leads does not change a run.
func TestUnreachedByChance(t *testing.T) {
	t.Parallel()
	n := 0
	trials(6, 1000, func(r *rand.Rand, l []api.Flow) {
		args := argsOf(r, l)
		a, e := flow.Run(l, l[0].Name, args, 500)
		g := copied(l)
		for i := range g {
			way := reached(&g[i])
			for b := range g[i].Blocks {
				if way[b] {
					continue
				}
				n++
				g[i].Blocks[b].Ins = append(g[i].Blocks[b].Ins, put(slices.Index(g[i].Regs, api.RegWord)))
			}
		}
		b, f := flow.Run(g, g[0].Name, args, 500)
		if e != f || !same(a, b) {
			t.Fatalf("P8.4: %s, not %s: %+v", showRan(b, f), showRan(a, e), l)
		}
	})
	if n < 500 {
		t.Errorf("only %d blocks", n)
	}
}

// P8.5: behind and ahead; what a second way has.
func TestBlocksByChance(t *testing.T) {
	t.Parallel()
	trials(7, 300, func(r *rand.Rand, l []api.Flow) {
		for _, f := range l {
			is := map[[2]int]int{}
			for b := range f.Blocks {
				behind, e := flow.Behind(f, b)
				want := plainTargets(&f.Blocks[b].End)
				slices.Sort(want)
				if e != api.OK || !slices.Equal(behind, slices.Compact(want)) {
					t.Fatalf("H3: %v, %d: %d of %+v", behind, e, b, f)
				}
				ahead, e := flow.Ahead(f, b)
				if e != api.OK || !slices.Equal(ahead, plainAhead(&f, b)) {
					t.Fatalf("H3: %v, %d: %d of %+v", ahead, e, b, f)
				}
				for _, to := range behind {
					is[[2]int{b, to}]++
				}
				for _, from := range ahead {
					is[[2]int{from, b}] += 10
				}
			}
			for way, n := range is {
				if n != 11 {
					t.Fatalf("P8.5: %v: %d of %+v", way, n, f)
				}
			}
		}
	})
}

// P8.6: Read inverts Write, and the other way round; what is near to a text is read only if it is one.
func TestTextsByChance(t *testing.T) {
	t.Parallel()
	seen := map[api.Errno]int{}
	trials(8, 400, func(r *rand.Rand, l []api.Flow) {
		for _, f := range l {
			s, e := flow.Write(f)
			g, e2 := flow.Read(s)
			if e != api.OK || e2 != api.OK || !same(f, g) || s != plainWrite(&f) {
				t.Fatalf("P8.6: %d, %d: %s: %+v", e, e2, s, f)
			}
			for range 20 {
				s := changedText(r, s)
				g, e := flow.Read(s)
				seen[e]++
				switch {
				case e == api.ErrForm && same(g, api.Flow{}):
				case e != api.OK || flow.Check(g) != api.OK || plainWrite(&g) != s:
					t.Fatalf("P8.6: %d: %q: %+v", e, s, g)
				}
			}
		}
	})
	if seen[api.OK] < 500 || seen[api.ErrForm] < 500 {
		t.Errorf("%v", seen)
	}
}

// changedText returns a text with one change.
func changedText(r *rand.Rand, s string) string {
	at := r.IntN(len(s))
	if r.IntN(3) > 0 {
		// A number is another one.
		for i := range s {
			if c := s[(at+i)%len(s)]; '0' <= c && c <= '9' {
				at = (at + i) % len(s)
				return s[:at] + string(rune('0'+r.IntN(10))) + s[at+1:]
			}
		}
	}
	return s[:at] + []string{"", " ", "\n", "0", "-", "1", "name x\n", "block\n"}[r.IntN(8)] + s[at+r.IntN(2):]
}

// P8.7: a flow that none of the others calls changes nothing.
func TestFurtherByChance(t *testing.T) {
	t.Parallel()
	trials(9, 500, func(r *rand.Rand, l []api.Flow) {
		args := argsOf(r, l)
		a, e := flow.Run(l, l[0].Name, args, 500)
		more := copied(l[r.IntN(len(l))])
		more.Name = []string{"!", "aa", "zz"}[r.IntN(3)]
		b, f := flow.Run(sorted(append(slices.Clone(l), more)), l[0].Name, args, 500)
		if e != f || !same(a, b) {
			t.Fatalf("P8.7: %s, not %s: %+v", showRan(b, f), showRan(a, e), l)
		}
	})
}
