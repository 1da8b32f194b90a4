package opt_test

import (
	"math/rand/v2"
	"slices"
	"strings"
	"testing"

	"argus/api"
	"argus/flow"
	"argus/lower"
	"argus/opt"
	"argus/poly"
	"argus/sample"
	"argus/ssa"
)

// argsOf returns arguments for the first flow of a list.
func argsOf(r *rand.Rand, l []api.Flow) []int {
	var args []int
	for range l[0].Args {
		args = append(args, sample.Pick[int](r, r.IntN(5)-1, r.IntN(5)-1, r.IntN(100), api.MaxInt, -api.MaxInt))
	}
	return args
}

// runsAlike compares what runs of two lists come to, if the first one is not stuck and neither is spent, and says how many
// these were.
func runsAlike(t *testing.T, what string, r *rand.Rand, a, b []api.Flow) int {
	t.Helper()
	n := 0
	for range 3 {
		args := argsOf(r, a)
		x, e := flow.Run(a, a[0].Name, args, 2000)
		y, g := flow.Run(b, b[0].Name, args, 5000)
		if e == api.ErrArg || g == api.ErrArg {
			t.Fatalf("%s: %d, %d of %+v, of %+v", what, e, g, a, b)
		}
		if e == api.ErrStuck || x.Kind == api.RanSpent || y.Kind == api.RanSpent {
			continue
		}
		if x.Steps, y.Steps = 0, 0; e != g || !same(x, y) {
			t.Fatalf("%s: %v, %d, not %v, %d: %v of %+v, of %+v", what, y, g, x, e, args, b, a)
		}
		n++
	}
	return n
}

// hold asks CheckFacts.
func hold(t *testing.T, f api.Flow, l []api.Fact) bool {
	t.Helper()
	return must[bool](t, f)(opt.CheckFacts(f, l))
}

// P12.1: CheckFacts is as a second way has it, for facts by chance, for those of them that hold together, and for changed ones.
func TestCheckFactsByChance(t *testing.T) {
	t.Parallel()
	seen := map[bool]int{}
	kinds := map[uint8]int{}
	forms(t, 1, 700, func(r *rand.Rand, l []api.Flow, i int) {
		f := l[i]
		some := someFacts(r, f)
		good := holding(f, some)
		if !hold(t, f, good) {
			t.Fatalf("L1: %v: %+v", good, f)
		}
		for _, x := range good {
			kinds[x.Kind]++
		}
		found := must[[]api.Fact](t, f)(opt.Facts(f))
		lists := [][]api.Fact{some, append(slices.Clone(found), good...)}
		for range 12 {
			lists = append(lists, otherFacts(r, f, sample.Pick(r, good, found, some)))
		}
		for _, x := range good {
			lists = append(lists, []api.Fact{x})
		}
		for _, x := range lists {
			if is := hold(t, f, x); is != newPlain(f, x).hold() {
				t.Fatalf("L1: %v: %v: %+v", is, x, f)
			} else {
				seen[is]++
			}
		}
	})
	if seen[true] < 3000 || seen[false] < 3000 || kinds[api.FactRange] < 2000 || kinds[api.FactSame] < 2000 || kinds[api.FactNever] < 700 {
		t.Errorf("%v, %v", seen, kinds)
	}
}

// P12.1: Facts hold, and have what they are to have.
func TestFactsByChance(t *testing.T) {
	t.Parallel()
	kinds := map[uint8]int{}
	forms(t, 2, 1500, func(r *rand.Rand, l []api.Flow, i int) {
		f := l[i]
		found := must[[]api.Fact](t, f)(opt.Facts(f))
		if !newPlain(f, found).hold() {
			t.Fatalf("L1: %v: %+v", found, f)
		}
		for _, x := range found {
			kinds[x.Kind]++
		}
		if !slices.IsSortedFunc(found, func(a, b api.Fact) int { return 2000*(int(a.Kind)-int(b.Kind)) + a.Reg - b.Reg }) {
			t.Fatalf("L1: %v", found)
		}
		counts := counted(f, -1)
		for b := range f.Blocks {
			for _, x := range f.Blocks[b].Ins {
				if counts[b] && x.Op == api.InsWord && !slices.Contains(found, just(x.To, x.N)) {
					t.Fatalf("L1: %v has not %v: %+v", found, just(x.To, x.N), f)
				}
			}
		}
	})
	if kinds[api.FactRange] < 5000 || kinds[api.FactSame] < 2000 || kinds[api.FactNever] < 1000 {
		t.Errorf("%v", kinds)
	}
}

// Facts is not to miss what can be seen by the ranges that it finds: no block, and no register, could be added.
func TestFactsAreAll(t *testing.T) {
	t.Parallel()
	all := 0
	forms(t, 3, 600, func(r *rand.Rand, l []api.Flow, i int) {
		f := l[i]
		found := must[[]api.Fact](t, f)(opt.Facts(f))
		isWhole := func(x api.Fact) bool { return x.Kind != api.FactRange }
		more := slices.DeleteFunc(slices.Clone(found), isWhole)
		for b := range f.Blocks {
			more = append(more, never(b))
		}
		for reg, kind := range f.Regs {
			for of := range f.Regs {
				if kind != api.RegIter && f.Regs[of] == kind && of != reg {
					more = append(more, alike(reg, of))
				}
			}
		}
		p := newPlain(f, found)
		for _, x := range holding(f, more) {
			w, isWritten := p.writers[x.Reg]
			switch {
			case x.Kind == api.FactNever:
				if !slices.Contains(found, x) {
					t.Fatalf("%v: %v: %+v", x, found, f)
				}
			case x.Kind == api.FactSame && isWritten && !p.isNever[w[0]]:
				all++
				if isIt := func(y api.Fact) bool { return y.Kind == api.FactSame && y.Reg == x.Reg }; !slices.ContainsFunc(found, isIt) {
					t.Fatalf("%v: %v: %+v", x, found, f)
				}
			}
		}
	})
	if all < 2000 {
		t.Errorf("only %d", all)
	}
}

// P12.4: what facts say is so wherever a walk leads, whether Facts found them or they hold by chance.
func TestFactsAreTrue(t *testing.T) {
	t.Parallel()
	steps, told := 0, 0
	forms(t, 4, 1500, func(r *rand.Rand, l []api.Flow, i int) {
		for _, facts := range [][]api.Fact{must[[]api.Fact](t, l[i])(opt.Facts(l[i])), holding(l[i], someFacts(r, l[i]))} {
			told += len(facts)
			for range 6 {
				wrong, n := walked(r, l[i], facts)
				steps += n
				if wrong != "" {
					t.Fatalf("%s: %v of %+v", wrong, facts, l[i])
				}
			}
		}
	})
	if steps < 50000 || told < 30000 {
		t.Errorf("only %d, %d", steps, told)
	}
}

// P12.1, P12.2: Fold is as a second way has it, in SSA form, and does the same.
func TestFoldByChance(t *testing.T) {
	t.Parallel()
	ran, folded := 0, 0
	forms(t, 5, 1200, func(r *rand.Rand, l []api.Flow, i int) {
		f := l[i]
		for _, facts := range [][]api.Fact{must[[]api.Fact](t, f)(opt.Facts(f)), holding(f, someFacts(r, f)), nil} {
			g := must[api.Flow](t, f)(opt.Fold(f, facts))
			if want := plainFold(f, facts); !same(g, want) {
				t.Fatalf("L3: %+v, not %+v: %v of %+v", g, want, facts, f)
			}
			if e := ssa.Check(g); e != api.OK {
				t.Fatalf("P12.2: %d: %+v of %+v by %v", e, g, f, facts)
			}
			if facts == nil && !same(f, g) {
				t.Fatalf("P12.5: %+v of %+v", g, f)
			}
			for b := range f.Blocks {
				if len(g.Blocks[b].Ins) > len(f.Blocks[b].Ins)+1 {
					t.Fatalf("P12.5: %+v of %+v", g, f)
				}
			}
			if !same(f, g) {
				folded++
			}
			ran += runsAlike(t, "P12.2", r, l, replaced(l, i, g))
		}
	})
	if ran < 3000 || folded < 1500 {
		t.Errorf("only %d, %d", ran, folded)
	}
}

// P12.1, P12.2, P12.5: Needed, Dead and Trim are as a second way has it, and do the same; again they change nothing.
func TestDeadAndTrimByChance(t *testing.T) {
	t.Parallel()
	ran, dead, gone := 0, 0, 0
	forms(t, 6, 2000, func(r *rand.Rand, l []api.Flow, i int) {
		f := l[i]
		if needed := must[[]int](t, f)(opt.Needed(f)); !slices.Equal(needed, plainNeeded(f)) {
			t.Fatalf("L4: %v: %+v", needed, f)
		}
		for n, pass := range []func(api.Flow) (api.Flow, api.Errno){opt.Dead, opt.Trim} {
			g := must[api.Flow](t, f)(pass(f))
			if want := []func(api.Flow) api.Flow{plainDead, plainTrim}[n](f); !same(g, want) {
				t.Fatalf("L4, L5: %+v, not %+v of %+v", g, want, f)
			}
			if e := ssa.Check(g); e != api.OK || sizeOf(g) > sizeOf(f) {
				t.Fatalf("P12.2: %d: %+v of %+v", e, g, f)
			}
			if again := must[api.Flow](t, g)(pass(g)); !same(g, again) {
				t.Fatalf("P12.5: %+v of %+v", again, g)
			}
			if n == 0 {
				dead += sizeOf(f) - sizeOf(g)
			} else {
				gone += len(f.Blocks) - len(g.Blocks)
			}
			ran += runsAlike(t, "P12.2", r, l, replaced(l, i, g))
		}
	})
	if ran < 3000 || dead < 5000 || gone < 1000 {
		t.Errorf("only %d, %d, %d", ran, dead, gone)
	}
}

// P12.1, P12.2: Opt is in SSA form, with the same head, does the same, and is not longer; nor is it if it is made again.
func TestOptByChance(t *testing.T) {
	t.Parallel()
	ran, before, after := 0, 0, 0
	forms(t, 7, 1500, func(r *rand.Rand, l []api.Flow, i int) {
		f := l[i]
		g := must[api.Flow](t, f)(opt.Opt(f))
		if e := ssa.Check(g); e != api.OK || sizeOf(g) > sizeOf(f) {
			t.Fatalf("L6: %d: %+v of %+v", e, g, f)
		}
		head, want := g, f
		head.Regs, head.Blocks, want.Regs, want.Blocks = nil, nil, nil, nil
		if !same(head, want) {
			t.Fatalf("L6: %+v of %+v", g, f)
		}
		if again := must[api.Flow](t, g)(opt.Opt(g)); sizeOf(again) > sizeOf(g) {
			t.Fatalf("L6: %+v of %+v", again, g)
		}
		before, after = before+sizeOf(f), after+sizeOf(g)
		ran += runsAlike(t, "P12.2", r, l, replaced(l, i, g))
	})
	if ran < 1500 || after > before*2/3 {
		t.Errorf("only %d, %d, %d", ran, before, after)
	}
}

// P12.3: two lists that hold do so one behind the other, unless a register has ranges in both; and in another order, unless one has two.
func TestTwoLists(t *testing.T) {
	t.Parallel()
	both := 0
	forms(t, 8, 700, func(r *rand.Rand, l []api.Flow, i int) {
		f := l[i]
		one, two := holding(f, someFacts(r, f)), holding(f, someFacts(r, f))
		if r.IntN(3) == 0 {
			two = must[[]api.Fact](t, f)(opt.Facts(f))
		}
		ranges := map[int]int{}
		for _, x := range one {
			if x.Kind == api.FactRange {
				ranges[x.Reg]++
			}
		}
		isAgain := func(x api.Fact) bool { return x.Kind == api.FactRange && ranges[x.Reg] > 0 }
		two = holding(f, slices.DeleteFunc(slices.Clone(two), isAgain))
		if all := append(slices.Clone(one), two...); !hold(t, f, all) {
			t.Fatalf("P12.3: %v and %v: %+v", one, two, f)
		}
		both += min(len(one), len(two))
		isTwice := func(x api.Fact) bool { return x.Kind == api.FactRange && ranges[x.Reg] > 1 }
		one = holding(f, slices.DeleteFunc(one, isTwice))
		r.Shuffle(len(one), func(i, j int) { one[i], one[j] = one[j], one[i] })
		if !hold(t, f, one) {
			t.Fatalf("P12.3: %v: %+v", one, f)
		}
	})
	if both < 3000 {
		t.Errorf("only %d", both)
	}
}

// P12.6: with other numbers of registers facts hold, or do not, that are renamed likewise; with other numbers of blocks, too.
func TestOtherNumbers(t *testing.T) {
	t.Parallel()
	seen := map[bool]int{}
	forms(t, 9, 700, func(r *rand.Rand, l []api.Flow, i int) {
		f := l[i]
		regs, blocks := shuffled(r, len(f.Regs), f.Args), shuffled(r, len(f.Blocks), 1)
		g := must[api.Flow](t, f)(flow.Renamed(f, regs))
		g = must[api.Flow](t, g)(flow.Moved(g, blocks))
		facts := must[[]api.Fact](t, f)(opt.Facts(f))
		good := holding(f, someFacts(r, f))
		for _, facts := range [][]api.Fact{facts, good, otherFacts(r, f, good), otherFacts(r, f, facts)} {
			is := hold(t, f, facts)
			renamed := slices.Clone(facts)
			for i := range renamed {
				x := &renamed[i]
				x.Reg, x.Of = numbered(x.Reg, regs), numbered(x.Of, regs)
				if x.Kind == api.FactNever {
					x.Reg = numbered(facts[i].Reg, blocks)
				}
				if x.Kind != api.FactSame {
					x.Of = facts[i].Of
				}
			}
			if hold(t, g, renamed) != is {
				t.Fatalf("P12.6: %v: %v: %+v", is, facts, f)
			}
			seen[is]++
		}
	})
	if seen[true] < 1400 || seen[false] < 500 {
		t.Errorf("%v", seen)
	}
}

// shuffled returns the numbers from 0 on by chance, but for the first ones.
func shuffled(r *rand.Rand, n, first int) []int {
	l := r.Perm(n - first)
	to := make([]int, n)
	for i := range to {
		to[i] = i
		if i >= first {
			to[i] = first + l[i-first]
		}
	}
	return to
}

// numbered returns the new number of what there is, and that of what there is not.
func numbered(i int, to []int) int {
	if i < 0 || i >= len(to) {
		return i
	}
	return to[i]
}

// P12.2, T4: flows of programs do the same when they are folded, when what is not needed is left out, and when all of it is done.
func TestFlowsOfPrograms(t *testing.T) {
	t.Parallel()
	ran, before, after := 0, 0, 0
	for seed := range uint64(40) {
		r := rand.New(rand.NewPCG(seed, 77))
		open, source, fault := sample.New(r).Program()
		p, e := poly.Mono(open, []string{"deep", "main", "say"})
		if fault.Err != api.OK || e != api.OK {
			continue
		}
		l, e := lower.All(p)
		if e != api.OK {
			t.Fatalf("I1: %d of %s", e, source)
		}
		folded, done := slices.Clone(l), slices.Clone(l)
		for i, f := range l {
			f, _, e = ssa.Into(must[api.Flow](t, f)(ssa.Straight(f)))
			if e != api.OK {
				t.Fatalf("K2: %d of %s", e, source)
			}
			g := must[api.Flow](t, f)(opt.Fold(f, must[[]api.Fact](t, f)(opt.Facts(f))))
			g = must[api.Flow](t, g)(opt.Dead(g))
			folded[i] = must[api.Flow](t, g)(opt.Trim(g))
			done[i] = must[api.Flow](t, f)(opt.Opt(f))
			before, after = before+sizeOf(f), after+sizeOf(done[i])
		}
		for _, name := range []string{"main", "main", "main", "say", "deep"} {
			args := []int{r.IntN(6) - 1, r.IntN(2)}[:1+strings.Count(name, "main")]
			x, e := flow.Run(l, name, args, 20000)
			for what, m := range map[string][]api.Flow{"Fold, Dead, Trim": folded, "Opt": done} {
				y, g := flow.Run(m, name, args, 20000)
				if x.Kind == api.RanSpent || y.Kind == api.RanSpent {
					continue
				}
				ran++
				if x.Steps, y.Steps = 0, 0; e != api.OK || g != api.OK || !same(x, y) {
					t.Fatalf("P12.2: %s: %s %v: %v, not %v, %d, %d of\n%s", what, name, args, y, x, e, g, source)
				}
			}
		}
	}
	if ran < 200 || after >= before {
		t.Errorf("only %d, %d, %d", ran, before, after)
	}
	t.Log(ran, before, after)
}
