package dom_test

import (
	"math/rand/v2"
	"slices"
	"testing"

	"argus/api"
	"argus/dom"
	"argus/sample"
)

// largest are flows with 1200 blocks, by their ways.
func largest() map[string][][]int {
	const n = api.MaxBlocks
	l := map[string][][]int{}
	add := func(name string, to func(b int) []int) {
		ways := make([][]int, n)
		for b := range ways {
			for _, x := range to(b) {
				if 0 <= x && x < n && len(ways[b]) < sample.MostTargets {
					ways[b] = append(ways[b], x)
				}
			}
		}
		l[name] = ways
	}
	add("a row", func(b int) []int { return []int{b + 1} })
	add("a ring", func(b int) []int { return []int{(b + 1) % n} })
	add("none that counts", func(b int) []int { return []int{b * (b + 1)} })
	add("loops in loops", func(b int) []int { return []int{b + 1, n - b} })
	add("a ladder", func(b int) []int { return []int{b + 2, b + 1 + b%2*2} })
	add("a ladder downwards", func(b int) []int {
		if b == 0 {
			return []int{1, n - 1}
		}
		return []int{b + 1, b - 1}
	})
	add("a ladder without steps", func(b int) []int {
		if b == 0 {
			return []int{1, 2}
		}
		return []int{b + 2}
	})
	add("all to all", func(b int) []int {
		return []int{b * 7 % n, b*11%n + 1, b*13%n + 2, b + 1, b + 300, b - 1, b - 300, n - b, b * b % n}
	})
	add("a tree", func(b int) []int { return []int{2*b + 1, 2*b + 2} })
	add("a tree whose leaves go back", func(b int) []int {
		if 2*b+2 >= n {
			return []int{(b + 77) % n, b / 2}
		}
		return []int{2*b + 1, 2*b + 2}
	})
	return l
}

// The largest flows: all answers fit together.
func TestLargestGraphs(t *testing.T) {
	t.Parallel()
	for name, ways := range largest() {
		t.Run(name, func(t *testing.T) {
			t.Parallel()
			m := &sample.Graphs{Chance: rand.New(rand.NewPCG(1, 1)), Most: 2, Phis: true}
			f := m.Flow(ways)
			d := must[api.Doms](t, f)(dom.Prove(f))
			if is := must[bool](t, f)(dom.CheckProof(f, d)); !is {
				t.Errorf("P10.3: %s", name)
			}
			if parent := parents(t, f); !slices.Equal(parent, d.Parent) {
				t.Errorf("P10.3: %s: %v", name, parent)
			}
			order := must[[]int](t, f)(dom.Order(f))
			for b, counts := range must[[]bool](t, f)(dom.Reach(f)) {
				if counts != slices.Contains(order, b) {
					t.Errorf("J1: %s: %d", name, b)
				}
			}
			loops, frontier := must[[]api.Loop](t, f)(dom.Loops(f)), must[[][]int](t, f)(dom.Frontier(f))
			for _, l := range loops {
				if !slices.Contains(frontier[l.Head], l.Head) {
					t.Errorf("P10.4: %s: %v", name, l)
				}
			}
			circles := map[string]int{"a row": 0, "a ring": 1, "none that counts": 1, "a ladder": 0, "a ladder without steps": 0, "a tree": 0}
			if n, isSaid := circles[name]; isSaid && len(loops) != n {
				t.Errorf("J5: %s: %v", name, loops)
			}
			if is := must[bool](t, f)(dom.Reducible(f)); is == slices.Contains([]string{"a ladder downwards", "all to all", "a tree whose leaves go back"}, name) {
				t.Errorf("J5: %s: %v", name, is)
			}
		})
	}
}

// J6: flows with all registers: each is read far away from where it is written.
func TestLargestSets(t *testing.T) {
	t.Parallel()
	f := api.Flow{Name: "p", Blocks: make([]api.Block, api.MaxBlocks)}
	last := api.MaxBlocks - 1
	for b := range f.Blocks {
		f.Blocks[b] = block(goTo(min(b+1, last)), number(b, 1))
		f.Regs = append(f.Regs, 1)
	}
	for reg := range 190 {
		f.Blocks[last].Ins = append(f.Blocks[last].Ins, put(6*reg))
	}
	f.Blocks[last].End = ret(-1)
	in, out, e := dom.Live(f)
	if e != api.OK {
		t.Fatalf("J6: %d", e)
	}
	for b := range f.Blocks {
		var before, behind []int
		for reg := 0; reg < 190*6; reg += 6 {
			if reg < b {
				before = append(before, reg)
			}
			if reg <= b && b < last {
				behind = append(behind, reg)
			}
		}
		if !slices.Equal(in[b], before) || !slices.Equal(out[b], behind) {
			t.Fatalf("J6: %d: %v, %v", b, in[b], out[b])
		}
	}
	way, is, e := dom.Witness(f, 1, 0)
	if e != api.OK || !is || len(way) != last {
		t.Errorf("J7: %d, %v, %d", len(way), is, e)
	}
	if is, e := dom.CheckWitness(f, 1, 0, way); e != api.OK || !is {
		t.Errorf("J7: %v, %d", is, e)
	}
}

// J7: the only proof has all 1200 blocks, and one more where a phi reads: CheckWitness takes no more than 1200.
func TestLongestWitness(t *testing.T) {
	ring := func(n int) api.Flow {
		f := words(2)
		for b := range n {
			f.Blocks = append(f.Blocks, block(goTo(b+1)))
		}
		f.Blocks[n-1].End.To = 1
		f.Blocks[1].Ins = []api.Ins{phi(1, 1, 0)}
		return f
	}
	for n, want := range map[int]bool{1199: true, 1200: false} {
		f := ring(n)
		way, is, e := dom.Witness(f, 0, 0)
		if e != api.OK || !is || len(way) != n+1 || way[n] != 1 {
			t.Errorf("J7: %d: %d, %v, %d", n, len(way), is, e)
		}
		if is, e := dom.CheckWitness(f, 0, 0, way); e != api.OK || is != want {
			t.Errorf("J7: %d: %v, %d", n, is, e)
		}
	}
}
