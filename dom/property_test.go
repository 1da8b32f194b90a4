package dom_test

import (
	"math/rand/v2"
	"slices"
	"testing"

	"argus/api"
	"argus/dom"
	"argus/flow"
	"argus/sample"
)

// must returns a result without an error.
func must[T any](t *testing.T, f api.Flow) func(x T, e api.Errno) T {
	return func(x T, e api.Errno) T {
		t.Helper()
		if e != api.OK {
			t.Fatalf("error %d: %+v", e, f)
		}
		return x
	}
}

func parents(t *testing.T, f api.Flow) []int {
	t.Helper()
	return must[[]int](t, f)(dom.Idom(f))
}

// P10.1: the blocks of flows by chance, as a second way has them.
func TestBlocksByChance(t *testing.T) {
	t.Parallel()
	trials(1, 1500, func(r *rand.Rand, f api.Flow) { askBlocks(t, plainOf(t, f)) })
}

// askBlocks compares J1 to J5, but for proofs.
func askBlocks(t *testing.T, p *plain) {
	t.Helper()
	f := p.Flow
	if l := must[[]bool](t, f)(dom.Reach(f)); !slices.Equal(l, p.counts) {
		t.Fatalf("P10.1: Reach: %v of %+v", l, f)
	}
	if l := must[[]int](t, f)(dom.Order(f)); !slices.Equal(l, p.order(0, map[int]bool{})) {
		t.Fatalf("P10.1: Order: %v of %+v", l, f)
	}
	parent, frontier := parents(t, f), must[[][]int](t, f)(dom.Frontier(f))
	if len(parent) != len(f.Blocks) || len(frontier) != len(f.Blocks) {
		t.Fatalf("P10.1: %v, %v of %+v", parent, frontier, f)
	}
	for a := range f.Blocks {
		if parent[a] != p.parent(a) {
			t.Fatalf("P10.1: Idom: %v of %+v", parent, f)
		}
		if !slices.Equal(frontier[a], p.frontier(a)) {
			t.Fatalf("P10.1: Frontier: %d: %v of %+v", a, frontier[a], f)
		}
	}
	if l := must[[]api.Loop](t, f)(dom.Loops(f)); !same(l, p.loops()) {
		t.Fatalf("P10.1: Loops: %v, not %v of %+v", l, p.loops(), f)
	}
	if is := must[bool](t, f)(dom.Reducible(f)); is != p.isReducible() || len(f.Blocks) < 7 && is != p.reducible() {
		t.Fatalf("P10.1: Reducible: %v of %+v", is, f)
	}
}

// P10.1: which blocks dominate others.
func TestDominatesByChance(t *testing.T) {
	t.Parallel()
	trials(2, 300, func(r *rand.Rand, f api.Flow) {
		p := plainOf(t, f)
		for a := range f.Blocks {
			for b := range f.Blocks {
				if is := must[bool](t, f)(dom.Dominates(f, a, b)); is != p.dominates[a][b] {
					t.Fatalf("P10.1: %d, %d: %v of %+v", a, b, is, f)
				}
			}
		}
	})
}

// P10.1: all flows of three blocks, and each sixth one of four, by the ways between them.
func TestSmallGraphs(t *testing.T) {
	t.Parallel()
	m := &sample.Graphs{Chance: rand.New(rand.NewPCG(3, 3))}
	ask := func(n, number int) {
		ways := make([][]int, n)
		for b := range ways {
			for to := range n {
				if number>>(b*n+to)&1 == 1 {
					ways[b] = append(ways[b], to)
				}
			}
		}
		p := plainOf(t, m.Flow(ways))
		askBlocks(t, p)
		d := must[api.Doms](t, p.Flow)(dom.Prove(p.Flow))
		if !p.holds(&d) {
			t.Fatalf("P10.1: Prove: %v of %+v", d, p.Flow)
		}
	}
	for number := range 1 << 9 {
		ask(3, number)
	}
	for number := 0; number < 1<<16; number += 6 {
		ask(4, number)
	}
}

// P10.2: what dominates is missed when it ends the routine.
func TestSignalsByChance(t *testing.T) {
	t.Parallel()
	n := 0
	trials(4, 600, func(r *rand.Rand, f api.Flow) {
		if is, _ := flow.Plain(f); !is {
			return
		}
		counted := must[[]bool](t, f)(dom.Reach(f))
		for a := range f.Blocks {
			g := copied(f)
			g.Blocks[a].End = signal("stop")
			counts := must[[]bool](t, g)(dom.Reach(g))
			for b := range f.Blocks {
				is := must[bool](t, f)(dom.Dominates(f, a, b))
				if a != b && is != (counted[b] && !counts[b]) {
					t.Fatalf("P10.2: %d, %d: %v of %+v", a, b, is, f)
				}
				n++
			}
		}
	})
	if n < 10000 {
		t.Errorf("only %d", n)
	}
}

// P10.3: Prove gives a proof that holds, with the parents of Idom; what is out does not count, and nothing else.
func TestProofsByChance(t *testing.T) {
	t.Parallel()
	held := map[bool]int{}
	trials(5, 600, func(r *rand.Rand, f api.Flow) {
		p, parent := plainOf(t, f), parents(t, f)
		d := must[api.Doms](t, f)(dom.Prove(f))
		if is := must[bool](t, f)(dom.CheckProof(f, d)); !is || !p.holds(&d) || !slices.Equal(d.Parent, parent) {
			t.Fatalf("P10.3: %v, %v of %+v", is, d, f)
		}
		for range 30 {
			g := changedProof(r, p, d)
			is := must[bool](t, f)(dom.CheckProof(f, g))
			if is != p.holds(&g) {
				t.Fatalf("P10.1: CheckProof: %v: %v of %+v", is, g, f)
			}
			held[is]++
			if !is {
				continue
			}
			for b, a := range g.Parent {
				if a != parent[b] || b > 0 && (a == -1) == p.counts[b] {
					t.Fatalf("P10.3: %v of %+v", g, f)
				}
			}
		}
	})
	if held[true] < 3000 || held[false] < 3000 {
		t.Errorf("%v", held)
	}
}

// changedProof returns a proof that may not hold, or may hold with other ways.
func changedProof(r *rand.Rand, p *plain, d api.Doms) api.Doms {
	d = copied(d)
	n := len(d.Parent)
	for range 1 + r.IntN(2) {
		b := r.IntN(n)
		number := []int{r.IntN(n), r.IntN(n), -1, n, -2, 1 << 62, -1 << 63}[r.IntN(7)]
		ways, isParent := [][][]int{d.One, d.Two}[r.IntN(2)], d.Parent[b] >= 0 && d.Parent[b] < n
		switch k := r.IntN(10); {
		case k == 0:
			d.Parent[b] = number
		case k == 1 && isParent && d.Parent[d.Parent[b]] >= 0 && d.Parent[d.Parent[b]] < n:
			// A block further up, with ways from there.
			d.Parent[b] = d.Parent[d.Parent[b]]
			d.One[b], d.Two[b] = p.someWay(r, d.Parent[b], b), p.someWay(r, d.Parent[b], b)
		case k < 5 && isParent:
			ways[b] = p.someWay(r, d.Parent[b], b)
		case k == 5 && len(ways[b]) > 0:
			ways[b][r.IntN(len(ways[b]))] = number
		case k == 6:
			ways[b] = append(ways[b], number)
		case k == 7 && len(ways[b]) > 0:
			at := r.IntN(len(ways[b]))
			ways[b] = slices.Delete(ways[b], at, at+1)
		case k == 8:
			d.One[b], d.Two[b] = d.Two[b], d.One[b]
		case k == 9 && r.IntN(4) == 0:
			l := []*[][]int{&d.One, &d.Two}[r.IntN(2)]
			*l = (*l)[:len(*l)-1]
			return d
		}
	}
	return d
}

// someWay returns a way by chance from one block to another one.
func (p *plain) someWay(r *rand.Rand, from, to int) []int {
	way := []int{from}
	for len(way) < 40 {
		l := p.behind[way[len(way)-1]]
		if len(l) == 0 {
			break
		}
		b := l[r.IntN(len(l))]
		if slices.Contains(way, b) && r.IntN(10) > 0 {
			continue
		}
		if way = append(way, b); b == to {
			break
		}
	}
	return way
}

// P10.4: the frontier of a block has those it does not dominate strictly, of which it dominates a block ahead.
func TestFrontiersByChance(t *testing.T) {
	t.Parallel()
	trials(6, 300, func(r *rand.Rand, f api.Flow) {
		l := must[[][]int](t, f)(dom.Frontier(f))
		dominates := func(a, b int) bool { return must[bool](t, f)(dom.Dominates(f, a, b)) }
		for b := range f.Blocks {
			ahead := must[[]int](t, f)(flow.Ahead(f, b))
			for a := range f.Blocks {
				is := slices.ContainsFunc(ahead, func(c int) bool { return dominates(a, c) }) && (a == b || !dominates(a, b))
				if slices.Contains(l[a], b) != is {
					t.Fatalf("P10.4: %d, %d: %v of %+v", a, b, l[a], f)
				}
			}
		}
	})
}

// P10.5: heads dominate their loops, loops lie within each other or apart; what is reducible can be told by the order.
func TestLoopsByChance(t *testing.T) {
	t.Parallel()
	seen := map[string]int{}
	trials(7, 1500, func(r *rand.Rand, f api.Flow) {
		l := must[[]api.Loop](t, f)(dom.Loops(f))
		for i, a := range l {
			if i > 0 && l[i-1].Head >= a.Head || !slices.IsSorted(a.Body) || !slices.Contains(a.Body, a.Head) {
				t.Fatalf("P10.5: %v of %+v", l, f)
			}
			for _, b := range a.Body {
				if !must[bool](t, f)(dom.Dominates(f, a.Head, b)) {
					t.Fatalf("P10.5: %v of %+v", l, f)
				}
			}
			for _, b := range l[:i] {
				seen[nested(t, f, a, b)]++
			}
		}
		is := must[bool](t, f)(dom.Reducible(f))
		if is != inOrder(t, f) {
			t.Fatalf("P10.5: %v of %+v", is, f)
		}
		if is {
			seen["reducible"]++
		} else {
			seen["not"]++
		}
	})
	if seen["apart"] < 50 || seen["within"] < 50 || seen["reducible"] < 500 || seen["not"] < 100 {
		t.Errorf("%v", seen)
	}
}

// nested tells how two loops lie.
func nested(t *testing.T, f api.Flow, a, b api.Loop) string {
	both := 0
	for _, c := range a.Body {
		if slices.Contains(b.Body, c) {
			both++
		}
	}
	switch both {
	case 0:
		return "apart"
	case len(a.Body), len(b.Body):
		return "within"
	}
	t.Fatalf("P10.5: %v, %v of %+v", a, b, f)
	return ""
}

// inOrder reports whether each block that has one ahead that stands behind it in Order dominates that.
func inOrder(t *testing.T, f api.Flow) bool {
	order := must[[]int](t, f)(dom.Order(f))
	for i, b := range order {
		ahead := must[[]int](t, f)(flow.Ahead(f, b))
		for _, from := range order[i+1:] {
			if slices.Contains(ahead, from) && !must[bool](t, f)(dom.Dominates(f, b, from)) {
				return false
			}
		}
	}
	return true
}

// P10.1, P10.6: a register is live exactly if there is a proof, which Witness returns.
func TestLiveByChance(t *testing.T) {
	t.Parallel()
	seen := map[bool]int{}
	trials(8, 700, func(r *rand.Rand, f api.Flow) {
		p := plainOf(t, f)
		in, out, e := dom.Live(f)
		if e != api.OK || len(in) != len(f.Blocks) || len(out) != len(f.Blocks) {
			t.Fatalf("J6: %d, %v, %v of %+v", e, in, out, f)
		}
		for _, l := range slices.Concat(in, out) {
			if !slices.IsSorted(l) || len(slices.Compact(slices.Clone(l))) < len(l) {
				t.Fatalf("J6: %v, %v of %+v", in, out, f)
			}
		}
		for reg := range f.Regs {
			wantIn, wantOut := p.live(reg)
			for b := range f.Blocks {
				is := slices.Contains(in[b], reg)
				if is != wantIn[b] || slices.Contains(out[b], reg) != wantOut[b] {
					t.Fatalf("P10.1: Live: %d, %d: %v, %v of %+v", b, reg, in[b], out[b], f)
				}
				way, has, e := dom.Witness(f, b, reg)
				if e != api.OK || has != is || (len(way) > 0) != is || is && !p.isWitness(b, reg, way) {
					t.Fatalf("P10.6: %d, %d: %v, %v, %v, %d of %+v", b, reg, is, has, way, e, f)
				}
				if is && !must[bool](t, f)(dom.CheckWitness(f, b, reg, way)) {
					t.Fatalf("P10.6: %d, %d: %v of %+v", b, reg, way, f)
				}
				seen[is]++
			}
		}
	})
	if seen[true] < 5000 || seen[false] < 5000 {
		t.Errorf("%v", seen)
	}
}

// P10.1, P10.6: CheckWitness of ways by chance, as a second way has it; it accepts none where the register is not live.
func TestWitnessesByChance(t *testing.T) {
	t.Parallel()
	seen := map[bool]int{}
	trials(9, 1200, func(r *rand.Rand, f api.Flow) {
		p := plainOf(t, f)
		in, _, _ := dom.Live(f)
		for range 30 {
			b, reg := r.IntN(len(f.Blocks)), r.IntN(len(f.Regs))
			way := p.someWay(r, b, r.IntN(len(f.Blocks)))
			way = way[:1+r.IntN(len(way))]
			if at := r.IntN(8 * len(way)); at < len(way) {
				way[at] = []int{r.IntN(len(f.Blocks)), -1, len(f.Blocks), 1 << 62, -1 << 63}[r.IntN(5)]
			}
			is := must[bool](t, f)(dom.CheckWitness(f, b, reg, way))
			if is != p.isWitness(b, reg, way) || is && !slices.Contains(in[b], reg) {
				t.Fatalf("P10.6: %d, %d, %v: %v of %+v", b, reg, way, is, f)
			}
			seen[is]++
		}
	})
	if seen[true] < 1000 || seen[false] < 1000 {
		t.Errorf("%v", seen)
	}
}

// permutation returns other numbers, but for the first ones.
func permutation(r *rand.Rand, n, first int) []int {
	to := make([]int, n)
	for i, x := range r.Perm(n - first) {
		to[first+i] = first + x
	}
	for i := range first {
		to[i] = i
	}
	return to
}

// named returns numbers in the place of others, ascending.
func named(l, to []int) []int {
	var out []int
	for _, x := range l {
		out = append(out, to[x])
	}
	slices.Sort(out)
	return out
}

// P10.7: with other numbers all is the same, with these.
func TestNamesByChance(t *testing.T) {
	t.Parallel()
	trials(10, 800, func(r *rand.Rand, f api.Flow) {
		blocks, regs := permutation(r, len(f.Blocks), 1), permutation(r, len(f.Regs), f.Args)
		g := must[api.Flow](t, f)(flow.Renamed(f, regs))
		g = must[api.Flow](t, g)(flow.Moved(g, blocks))
		before, after := parents(t, f), parents(t, g)
		frontier, frontier2 := must[[][]int](t, f)(dom.Frontier(f)), must[[][]int](t, g)(dom.Frontier(g))
		in, out, _ := dom.Live(f)
		in2, out2, _ := dom.Live(g)
		for b, to := range blocks {
			if before[b] == -1 && after[to] != -1 || before[b] >= 0 && after[to] != blocks[before[b]] {
				t.Fatalf("P10.7: %v, %v of %+v", before, after, f)
			}
			if !slices.Equal(named(frontier[b], blocks), frontier2[to]) || !slices.Equal(named(in[b], regs), in2[to]) || !slices.Equal(named(out[b], regs), out2[to]) {
				t.Fatalf("P10.7: %d: %v, %v, %v of %+v", b, frontier2[to], in2[to], out2[to], f)
			}
		}
		loops := must[[]api.Loop](t, f)(dom.Loops(f))
		for i, l := range loops {
			loops[i] = api.Loop{Head: blocks[l.Head], Body: named(l.Body, blocks)}
		}
		slices.SortFunc(loops, func(a, b api.Loop) int { return a.Head - b.Head })
		if l := must[[]api.Loop](t, g)(dom.Loops(g)); !same(l, loops) {
			t.Fatalf("P10.7: %v, not %v of %+v", l, loops, f)
		}
		if must[bool](t, f)(dom.Reducible(f)) != must[bool](t, g)(dom.Reducible(g)) {
			t.Fatalf("P10.7: %+v", f)
		}
	})
}
