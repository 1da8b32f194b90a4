package flow_test

import (
	"slices"
	"strings"
	"testing"

	"argus/api"
	"argus/flow"
)

func TestExamplesOfCheck(t *testing.T) {
	if e := flow.Check(sum()); e != api.OK {
		t.Errorf("H1: %d", e)
	}
	f := sum()
	f.Blocks[3].End.A = 2
	if e := flow.Check(f); e != api.ErrRead {
		t.Errorf("H1: %d", e)
	}
}

func TestExamplesOfRun(t *testing.T) {
	l := []api.Flow{sum()}
	for _, x := range []struct {
		arg, steps int
		want       string
	}{{4, 100, "done 10 in 20"}, {4, 19, "spent in 19"}, {4, 20, "done 10 in 20"}, {1000000000, 100000, "signal failure in 9"}} {
		if s := showRan(flow.Run(l, "sum", []int{x.arg}, x.steps)); s != x.want {
			t.Errorf("H2: %d, %d steps: %s, not %s", x.arg, x.steps, s, x.want)
		}
	}
	l[0].Signals = []string{"overflow"}
	if s := showRan(flow.Run(l, "sum", []int{1000000000}, 100000)); s != "signal overflow in 9" {
		t.Errorf("H2: %s", s)
	}
}

func TestExamplesOfBlocks(t *testing.T) {
	f := sum()
	for block, want := range [][2][]int{1: {{2, 3}, {0, 4}}, 3: {{}, {1}}} {
		behind, e := flow.Behind(f, block)
		ahead, g := flow.Ahead(f, block)
		if block%2 == 1 && (!slices.Equal(behind, want[0]) || !slices.Equal(ahead, want[1]) || e != api.OK || g != api.OK) {
			t.Errorf("H3: %d: %v, %v, %d, %d", block, behind, ahead, e, g)
		}
	}
	if n, e := flow.Size(f); n != 7 || e != api.OK {
		t.Errorf("H5: %d, %d", n, e)
	}
	if is, e := flow.Plain(f); !is || e != api.OK {
		t.Errorf("H5: %v, %d", is, e)
	}
	g, e := flow.Moved(f, []int{0, 2, 1, 3, 4})
	if e != api.OK || g.Blocks[0].End.To != 2 {
		t.Errorf("H6: %v, %d", g, e)
	}
}

func TestExamplesOfReads(t *testing.T) {
	x := api.Ins{Op: api.InsEq, To: 2, A: 0, B: 1}
	if l := flow.Reads(x); !slices.Equal(l, []int{0, 1}) {
		t.Errorf("H4: %v", l)
	}
	if to := flow.Writes(x); to != 2 {
		t.Errorf("H4: %d", to)
	}
	if to := flow.WritesEnd(sum().Blocks[2].End); to != 1 {
		t.Errorf("H4: %d", to)
	}
}

func TestExamplesOfTexts(t *testing.T) {
	s, e := flow.Write(sum())
	want := []string{"flow sum proc 1 1", "regs 1 1 1", "slots", "signals", "block", "ins 1 1 0 0 0", "end 1 0 0 1 0 -1"}
	if l := strings.Split(s, "\n"); e != api.OK || !slices.Equal(l[:7], want) {
		t.Errorf("H7: %q, %d", s, e)
	}
}
