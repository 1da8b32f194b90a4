package lower_test

import (
	"fmt"
	"math/rand/v2"
	"slices"
	"strings"
	"testing"

	"argus/api"
	"argus/flow"
	"argus/lower"
	"argus/poly"
	"argus/sample"
)

// trial is a program that is made by chance, and the one without parameters of what main, say and deep need.
type trial struct {
	*rand.Rand
	open, p api.Program
	source  string
}

// trials runs do for programs that are made by chance, the same in each run.
func trials(t *testing.T, seed uint64, programs int, do func(x trial)) {
	t.Helper()
	for i := range programs {
		r := rand.New(rand.NewPCG(seed*1000+uint64(i), 9))
		open, source, f := sample.New(r).Program()
		if f.Err != api.OK {
			t.Fatalf("%v:\n%s", f, source)
		}
		p, e := poly.Mono(open, []string{"deep", "main", "say"})
		if e == api.OK {
			do(trial{r, open, p, source})
		}
	}
}

// P9.2, P9.5: the flows do the same as the program, and as the one with parameters that it was made of.
func TestRunsByChance(t *testing.T) {
	t.Parallel()
	seen := map[string]int{}
	trials(t, 1, 100, func(x trial) {
		l := flowsOf(t, x.p)
		for _, name := range []string{"main", "main", "main", "say", "deep"} {
			args := []int{x.IntN(6) - 1, x.IntN(2)}[:1+strings.Count(name, "main")]
			by, of := runs(t, x.open, l, name, args, 10000)
			if by.Kind == api.RanSpent || of.Kind == api.RanSpent {
				seen["spent"]++
				continue
			}
			if showRan(by) != showRan(of) {
				t.Fatalf("P9.5: %s(%v): %s, not %s of\n%s", name, args, showRan(of), showRan(by), x.source)
			}
			again, _ := runs(t, x.p, l, name, args, 10000)
			if showRan(again) != showRan(of) {
				t.Fatalf("P9.2: %s(%v): %s, not %s of\n%s", name, args, showRan(of), showRan(again), x.source)
			}
			seen[fmt.Sprint("kind ", by.Kind)]++
			if len(by.Put) > 0 {
				seen["put"]++
			}
			if by.Value.Kind == api.ValBool {
				seen["bool"]++
			}
		}
	})
	if len(seen) < 5 || seen["kind 1"] < 100 || seen["kind 2"] < 50 || seen["put"] < 50 || seen["bool"] < 5 {
		t.Errorf("%v", seen)
	}
}

// P9.3, P9.4: All has what Lower returns, like its core; no list with one less, or with two exchanged, is accepted; nothing else is called.
func TestFlowsByChance(t *testing.T) {
	t.Parallel()
	trials(t, 2, 12, func(x trial) {
		l := flowsOf(t, x.p)
		if len(l) != len(x.p.Cores) {
			t.Fatalf("P9.3: %d flows of %d cores", len(l), len(x.p.Cores))
		}
		for i, f := range l {
			if textOf(f) != textOf(lowered(t, x.p, f.Name)) {
				t.Fatalf("I1: Lower(%s) is another flow than All has", f.Name)
			}
			asksLike(t, x.p, f.Name, f, true)
			names, e := lower.Calls(x.p, f.Name)
			if e != api.OK || !slices.Equal(names, plainCalls(x.p, f.Name)) {
				t.Fatalf("I4: Calls(%s): %q, %d of\n%s", f.Name, names, e, x.source)
			}
			for _, name := range called(f) {
				if !slices.Contains(names, name) {
					t.Fatalf("P9.4: %s calls %s of\n%s", f.Name, name, x.source)
				}
			}
			args, result, e := lower.Kinds(x.p, f.Name)
			if e != api.OK || !slices.Equal(args, f.Regs[:f.Args]) || result != f.Result {
				t.Fatalf("I3: Kinds(%s): %v, %d, %d", f.Name, args, result, e)
			}
			less := slices.Delete(slices.Clone(l), i, i+1)
			if at, e := lower.CheckFlows(x.p, less); at != len(less) || e != api.ErrNone {
				t.Fatalf("P9.3: without %s: %d, %d", f.Name, at, e)
			}
			at := x.IntN(len(l))
			l[i], l[at] = l[at], l[i]
			first, e := lower.CheckFlows(x.p, l)
			if at == i && e != api.OK || at != i && (e != api.ErrArg || first != min(i, at)+1) {
				t.Fatalf("P9.3: %d and %d exchanged: %d, %d", i, at, first, e)
			}
			l[i], l[at] = l[at], l[i]
		}
	})
}

// I2: flows of one program are like the cores of another one, or not, as a second way has it.
func TestLikeByChance(t *testing.T) {
	t.Parallel()
	seen := map[bool]int{}
	var before []api.Flow
	trials(t, 3, 16, func(x trial) {
		l := flowsOf(t, x.p)
		for _, f := range slices.Concat(l, before) {
			for range 2 {
				g := copied(f)
				bendFlow(x.Rand, &g, l)
				want := plainLike(x.p, g)
				if is, e := lower.Like(x.p, g); is != want || e != api.OK {
					t.Fatalf("I2: Like: %v, %d, not %v of %v in\n%s", is, e, want, g, x.source)
				}
				seen[want]++
			}
		}
		some := slices.DeleteFunc(slices.Clone(l), func(api.Flow) bool { return x.IntN(30) == 0 })
		bendFlow(x.Rand, &some[x.IntN(len(some))], l)
		at, e := lower.CheckFlows(x.p, some)
		if want, f := plainCheck(x.p, some); at != want || e != f {
			t.Fatalf("I2: CheckFlows: %d, %d, not %d, %d", at, e, want, f)
		}
		before = l[:min(5, len(l))]
	})
	if seen[true] < 200 || seen[false] < 200 {
		t.Errorf("%v", seen)
	}
}

// bendFlow changes something in a flow, or nothing.
func bendFlow(r *rand.Rand, f *api.Flow, l []api.Flow) {
	other := l[r.IntN(len(l))]
	switch r.IntN(10) {
	case 0:
		f.Name = other.Name
	case 1:
		f.Iter = !f.Iter
	case 2:
		f.Args = r.IntN(4) - 1
	case 3:
		f.Result = uint8(r.IntN(4))
	case 4:
		f.Signals = other.Signals
	case 5:
		f.Regs = append(f.Regs, 0)
		f.Regs[r.IntN(len(f.Regs))]++
	case 6:
		f.Slots = []uint8{api.RegRef}
	case 7:
		f.Blocks = other.Blocks
	}
}

// I3, I4: parts and values of types of programs are as a second way has them.
func TestTypesByChance(t *testing.T) {
	t.Parallel()
	seen := map[api.Errno]int{}
	trials(t, 4, 6, func(x trial) {
		var parted, nodes []api.Node
		for _, c := range x.p.Cores {
			for _, n := range c.Nodes {
				nodes = append(nodes, n)
				if strings.HasPrefix(n.Var, "record[") || strings.HasPrefix(n.Var, "oneof[") {
					parted = append(parted, n)
				}
			}
		}
		nodes = append(nodes, api.Node{Var: "?t"}, api.Node{Var: "nowhere", Name: "get_l"})
		for range 25 {
			n := sample.Pick(x, sample.Pick(x, parted, nodes)...)
			if x.IntN(4) == 0 {
				n.Name = sample.Pick(x, "get_l", "set_r", "make_l", "is_r", "make", "get_", "l")
			}
			at, e := lower.Part(x.p, n.Var, n.Name)
			if want, f := plainPart(x.p, n.Var, n.Name); at != want || e != f {
				t.Fatalf("I3: Part(%s, %s): %d, %d, not %d, %d", n.Var, n.Name, at, e, want, f)
			}
			seen[e]++
			v := api.Value{Kind: uint8(x.IntN(5)), N: sample.Pick(x, 0, 0, 1, 1, 2, -1, 1000000001)}
			word, e := lower.Value(x.p, n.Type, v)
			if want, f := plainValue(x.p, n.Type, v); word != want || e != f {
				t.Fatalf("I4: Value(%s, %v): %d, %d, not %d, %d", n.Type, v, word, e, want, f)
			}
		}
	})
	if seen[api.OK] < 20 || seen[api.ErrPart] < 20 || seen[api.ErrArg] < 20 {
		t.Errorf("%v", seen)
	}
}

// The flows are valid for the layers that come: no block is ahead of the block 0, and no end that writes leads to its To in another way.
func TestStraightFlows(t *testing.T) {
	t.Parallel()
	trials(t, 5, 20, func(x trial) {
		for _, f := range flowsOf(t, x.p) {
			if l, e := flow.Ahead(f, 0); len(l) > 0 || e != api.OK {
				t.Fatalf("blocks ahead of the block 0 of %s: %v, %d", f.Name, l, e)
			}
			for _, b := range f.Blocks {
				to := []int{b.End.To, b.End.Else}
				for _, w := range b.End.Whens {
					to = append(to, w.To)
				}
				if flow.WritesEnd(b.End) >= 0 && b.End.Kind != api.EndNext && slices.Contains(to[2:], to[0]) || b.End.Kind == api.EndNext && slices.Contains(to[1:], to[0]) {
					t.Fatalf("%s: %v", f.Name, b.End)
				}
			}
		}
	})
}
