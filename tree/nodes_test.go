package tree_test

import (
	"slices"
	"strings"
	"testing"

	"argus/api"
	"argus/tree"
)

func firstNodes(t *testing.T) []api.Node {
	t.Helper()
	return mustParse(t, firstExample)[0].Routines[0].Nodes
}

func TestNodesOfExamples(t *testing.T) {
	l := firstNodes(t)
	if n, e := tree.Size(l, 2); n != 3 || e != api.OK {
		t.Errorf("Size: %d, %d", n, e)
	}
	if p, e := tree.Parents(l); !slices.Equal(p, []int{2, 2, 3, 4, -1}) || e != api.OK {
		t.Errorf("Parents: %v, %d", p, e)
	}
	if s, e := tree.Subtree(l, 2); !equalNodes(s, l[:3]) || e != api.OK {
		t.Errorf("Subtree: %v, %d", s, e)
	}
	g, e := tree.Graft(l, 1, []api.Node{named(api.ExVar, "b")})
	want := []api.Node{named(api.ExVar, "a"), named(api.ExVar, "b"), named(api.ExOp, "+", 0, 1), node(api.StReturn, 2), node(api.StSeq, 3)}
	if e != api.OK || !equalNodes(g, want) {
		t.Errorf("Graft: %v, %d", g, e)
	}
	if g, e := tree.Graft(l, 1, []api.Node{node(api.StBreak)}); len(g) > 0 || e != api.ErrTree {
		t.Errorf("Graft of a StBreak: %v, %d", g, e)
	}
}

func TestNodesOfABody(t *testing.T) {
	l := body(t, "x := 1; if a then put b + c else break end; f(d)")
	// 0: 1, 1: x :=, 2: a, 3: b, 4: c, 5: +, 6: put, 7: seq, 8: break, 9: seq, 10: if, 11: d, 12: f, 13: do, 14: seq
	for i, want := range []int{1, 2, 1, 1, 1, 3, 4, 5, 1, 2, 9, 1, 2, 3, 15} {
		if n, e := tree.Size(l, i); n != want || e != api.OK {
			t.Errorf("Size of %d: %d, %d", i, n, e)
		}
	}
	if p, e := tree.Parents(l); !slices.Equal(p, []int{1, 14, 10, 5, 5, 6, 7, 10, 9, 10, 14, 12, 13, 14, -1}) || e != api.OK {
		t.Errorf("Parents: %v, %d", p, e)
	}
	want := []api.Node{named(api.ExVar, "b"), named(api.ExVar, "c"), named(api.ExOp, "+", 0, 1), node(api.StPut, 2), node(api.StSeq, 3)}
	if s, e := tree.Subtree(l, 7); !equalNodes(s, want) || e != api.OK {
		t.Errorf("Subtree: %v, %d", s, e)
	}
	if s, e := tree.Subtree(l, 14); !equalNodes(s, l) || e != api.OK {
		t.Errorf("Subtree: %v, %d", s, e)
	}
	g, e := tree.Graft(l, 7, body(t, "y := 2; g()"))
	if e != api.OK || !equalNodes(g, body(t, "x := 1; if a then y := 2; g() else break end; f(d)")) {
		t.Errorf("Graft: %v, %d", g, e)
	}
	g, e = tree.Graft(l, 10, []api.Node{node(api.StBreak)})
	if e != api.OK || !equalNodes(g, body(t, "x := 1; break; f(d)")) {
		t.Errorf("Graft: %v, %d", g, e)
	}
	g, e = tree.Graft(l, 14, body(t, "break"))
	if e != api.OK || !equalNodes(g, body(t, "break")) {
		t.Errorf("Graft: %v, %d", g, e)
	}
}

func TestFaultsOfNodes(t *testing.T) {
	l := firstNodes(t)
	b := []api.Node{named(api.ExVar, "b")}
	big := slices.Repeat([]api.Node{node(api.StBreak)}, 399)
	all := node(api.StSeq)
	for i := range big {
		all.Kids = append(all.Kids, i)
	}
	big = append(big, all)
	for i, x := range []struct {
		l  []api.Node
		at int
		by []api.Node
		e  api.Errno
	}{
		{l, 0, b, api.OK}, {l, -1, b, api.ErrArg}, {l, 5, b, api.ErrArg}, {l, 1 << 62, b, api.ErrArg}, {l, -1 << 63, b, api.ErrArg}, {nil, 0, b, api.ErrTree}, {b, 0, b, api.ErrTree}, {b, 7, b, api.ErrTree}, {l[:4], 0, b, api.ErrTree},
		{l, 9, nil, api.ErrArg}, {l, 0, nil, api.ErrTree}, {l, 0, slices.Repeat(b, 2), api.ErrTree}, {l, 4, b, api.ErrTree}, {l, 0, []api.Node{node(api.ExIndex, 0, 1)}, api.ErrTree}, {l, 0, []api.Node{named(api.ExOp, "not", 1), b[0]}, api.ErrTree},
		{l, 0, []api.Node{named(api.ExVar, "if")}, api.ErrTree}, {l, 0, []api.Node{b[0], named(api.ExField, "f", -1)}, api.ErrTree}, {l, 0, []api.Node{b[0], named(api.ExField, "f", 1<<62)}, api.ErrTree}, {l, 0, make([]api.Node, 100000), api.ErrTree},
		{l, 3, []api.Node{node(api.StBreak)}, api.OK}, {l, 3, b, api.ErrTree}, {l, 3, []api.Node{node(api.StSeq)}, api.ErrTree}, {l, 4, []api.Node{node(api.StSeq)}, api.OK}, {l, 4, []api.Node{node(api.StBreak)}, api.ErrTree}, {l, 4, big, api.OK},
		{big, 5, []api.Node{node(api.StReturn)}, api.OK}, {big, 5, []api.Node{b[0], node(api.StReturn, 0)}, api.ErrTree}, {big, 399, big, api.OK}, {append(slices.Clone(big), node(api.StSeq, 399)), 0, b, api.ErrTree},
	} {
		g, e := tree.Graft(x.l, x.at, x.by)
		if e != x.e || e != api.OK && len(g) > 0 {
			t.Errorf("Graft, %d: %v, %d", i, g, e)
		}
		want := tree.CheckNodes(x.l)
		if want == api.OK && (x.at < 0 || x.at >= len(x.l)) {
			want = api.ErrArg
		}
		if n, e := tree.Size(x.l, x.at); e != want || e != api.OK && n != 0 {
			t.Errorf("Size, %d: %d, %d", i, n, e)
		}
		if s, e := tree.Subtree(x.l, x.at); e != want || e != api.OK && len(s) > 0 {
			t.Errorf("Subtree, %d: %v, %d", i, s, e)
		}
		if p, e := tree.Parents(x.l); e != tree.CheckNodes(x.l) || e != api.OK && len(p) > 0 {
			t.Errorf("Parents, %d: %v, %d", i, p, e)
		}
	}
}

// P2.5.
func TestTrees(t *testing.T) {
	m := newMaker(41)
	for range 300 {
		l := m.body(m.IntN(60))
		parents, e := tree.Parents(l)
		if e != api.OK || len(parents) != len(l) {
			t.Fatalf("P2.5: %d", e)
		}
		for i, n := range l {
			size, _ := tree.Size(l, i)
			sum := 1
			for _, k := range n.Kids {
				one, _ := tree.Size(l, k)
				sum += one
				if parents[k] != i {
					t.Fatalf("P2.5: the parent of %d is %d", k, parents[k])
				}
			}
			s, e := tree.Subtree(l, i)
			if e != api.OK || size != sum || len(s) != size || s[size-1].Kind != n.Kind {
				t.Fatalf("P2.5: the tree of %d: %d, %d, %d", i, size, sum, e)
			}
			same, e := tree.Graft(l, i, s)
			if e != api.OK || !equalNodes(same, l) {
				t.Fatalf("P2.5: Graft at %d changes %v to %v", i, l, same)
			}
		}
		askGraft(t, m, l)
	}
}

// askGraft puts other nodes somewhere, and looks for them there.
func askGraft(t *testing.T, m *maker, l []api.Node) {
	t.Helper()
	i := m.IntN(len(l))
	by := m.exprNodes(m.IntN(10))
	if l[i].Kind == api.StSeq {
		by = m.body(m.IntN(10))
	}
	size, _ := tree.Size(l, i)
	g, e := tree.Graft(l, i, by)
	if e != api.OK {
		if e != api.ErrTree || len(g) > 0 || len(l)+len(by)-size <= 400 && (l[i].Kind == api.StSeq || l[i].Kind <= api.ExDown && l[i].Kind != api.ExCall) {
			t.Fatalf("P2.5: %v at %d of %v: %d", by, i, l, e)
		}
		return
	}
	s, e := tree.Subtree(g, i-size+len(by))
	if e != api.OK || !equalNodes(s, by) || len(g) != len(l)-size+len(by) {
		t.Fatalf("P2.5: %v became %v", by, s)
	}
	back, _ := tree.Subtree(l, i)
	if again, e := tree.Graft(g, i-size+len(by), back); e != api.OK || !equalNodes(again, l) {
		t.Fatalf("P2.5: back again: %v", again)
	}
}

func TestNodesMakeNewMemory(t *testing.T) {
	m := newMaker(42)
	for range 200 {
		l := m.body(40)
		by := m.exprNodes(5)
		before, beforeBy := copied(l), copied(by)
		i := m.IntN(len(l))
		s, _ := tree.Subtree(l, i)
		same, _ := tree.Graft(l, i, s)
		other, _ := tree.Graft(l, i, by)
		p, _ := tree.Parents(l)
		u, _ := tree.Uses(l)
		apart(t, "nodes", l, by, s, same, other, p, u)
		if !equalNodes(l, before) || !equalNodes(by, beforeBy) {
			t.Fatalf("R3: an argument was changed")
		}
	}
}

func TestPrintOfABodyAfterGraft(t *testing.T) {
	l := mustParse(t, "proc p(a: int) returns int is return a * 2 end")
	by, _ := tree.ParseExpr("b + 1")
	g, e := tree.Graft(l[0].Routines[0].Nodes, 0, by)
	l[0].Routines[0].Nodes = g
	if s := mustPrint(t, l); e != api.OK || !strings.Contains(s, "  return (b + 1) * 2\n") {
		t.Errorf("%d: %s", e, s)
	}
}
