package lower_test

import (
	"fmt"
	"slices"
	"strings"
	"testing"

	"argus/api"
	"argus/flow"
	"argus/lower"
)

// asksLike asks whether a flow is like its core, in both ways.
func asksLike(t *testing.T, p api.Program, what string, f api.Flow, want bool) {
	t.Helper()
	is, e := lower.Like(p, f)
	if is != want || e != api.OK {
		t.Errorf("I2: Like of %s: %v, %d, not %v", what, is, e, want)
	}
	if plainLike(p, f) != want {
		t.Errorf("the second way: Like of %s: %v", what, !want)
	}
}

// Each thing that makes a flow like a core, and others that do not matter.
func TestLike(t *testing.T) {
	p := programOf(t, cell, upto, useOfBoth)
	for _, x := range []struct {
		what, name string
		change     func(f *api.Flow)
		want       bool
	}{
		{"itself", "main", func(f *api.Flow) {}, true},
		{"another name", "main", func(f *api.Flow) { f.Name = "mani" }, false},
		{"no name", "main", func(f *api.Flow) { f.Name = "" }, false},
		{"a name of another core", "main", func(f *api.Flow) { f.Name = "cell$get" }, false},
		{"without its owner", "cell$get", func(f *api.Flow) { f.Name = "get" }, false},
		{"an iterator", "main", func(f *api.Flow) { f.Iter = true }, false},
		{"a procedure", "upto", func(f *api.Flow) { f.Iter = false }, false},
		{"other signals", "main", func(f *api.Flow) { f.Signals = []string{"high"} }, false},
		{"more signals", "main", func(f *api.Flow) { f.Signals = []string{"low", "lower"} }, false},
		{"no signals", "main", func(f *api.Flow) { f.Signals = nil }, false},
		{"an argument less", "cell$add", func(f *api.Flow) {
			f.Args, f.Blocks = 1, []api.Block{{End: api.End{Kind: api.EndReturn, A: -1, Others: -1}}}
		}, false},
		{"an argument more", "cell$get", func(f *api.Flow) { f.Args, f.Regs[1] = 2, api.RegWord }, false},
		{"an argument of another kind", "upto", func(f *api.Flow) {
			f.Regs, f.Blocks = []uint8{api.RegRef}, []api.Block{{End: api.End{Kind: api.EndReturn, A: -1, Others: -1}}}
		}, false},
		{"as many arguments as it has no registers for", "upto", func(f *api.Flow) { f.Args = 1000000 }, false},
		{"arguments below 0", "upto", func(f *api.Flow) { f.Args = -1 }, false},
		{"no result", "cell$get", func(f *api.Flow) {
			f.Result, f.Blocks = 0, []api.Block{{End: api.End{Kind: api.EndReturn, A: -1, Others: -1}}}
		}, false},
		{"a result more", "cell$add", func(f *api.Flow) {
			f.Result, f.Blocks = api.RegRef, []api.Block{{End: api.End{Kind: api.EndReturn, A: 0, Others: -1}}}
		}, false},
		{"a result of another kind", "cell$get", func(f *api.Flow) {
			f.Result, f.Blocks = api.RegRef, []api.Block{{End: api.End{Kind: api.EndReturn, A: 0, Others: -1}}}
		}, false},
		{"a slot", "main", func(f *api.Flow) { f.Slots = []uint8{api.RegWord} }, false},
		{"empty slots", "main", func(f *api.Flow) { f.Slots = []uint8{} }, true},
		{"a register more", "main", func(f *api.Flow) { f.Regs = append(f.Regs, api.RegIter) }, true},
		{"other code", "main", func(f *api.Flow) {
			f.Blocks = []api.Block{{End: api.End{Kind: api.EndReturn, A: 0, Others: -1}}}
		}, true},
		{"other calls", "main", func(f *api.Flow) {
			f.Blocks = []api.Block{{End: api.End{Kind: api.EndCall, Name: "none", A: -1, Others: -1}}}
		}, true},
		{"code that is not valid", "main", func(f *api.Flow) { f.Blocks[0].End.Kind = 99 }, false},
		{"code that reads what is not written", "main", func(f *api.Flow) {
			f.Blocks = []api.Block{{End: api.End{Kind: api.EndReturn, A: 1, Others: -1}}}
			f.Regs = []uint8{api.RegWord, api.RegWord}
		}, false},
		{"no blocks", "main", func(f *api.Flow) { f.Blocks = nil }, false},
		{"nothing", "main", func(f *api.Flow) { *f = api.Flow{} }, false},
		{"a name alone", "main", func(f *api.Flow) { *f = api.Flow{Name: "main"} }, false},
	} {
		f := copied(lowered(t, p, x.name))
		x.change(&f)
		asksLike(t, p, x.what, f, x.want)
	}
}

// Flows that are not those of the program: which one, and the error.
func TestCheckFlows(t *testing.T) {
	p := programOf(t, cell, upto, useOfBoth)
	all := flowsOf(t, p)
	end := func(f *api.Flow, e api.End) {
		e.Others = -1
		f.Blocks = []api.Block{{End: e}, {End: api.End{Kind: api.EndSignal, Name: "low", Others: -1}}}
	}
	for _, x := range []struct {
		what   string
		change func(l []api.Flow) []api.Flow
		at     int
		e      api.Errno
	}{
		{"all", func(l []api.Flow) []api.Flow { return l }, 0, api.OK},
		{"none", func(l []api.Flow) []api.Flow { return nil }, 0, api.ErrNone},
		{"the first", func(l []api.Flow) []api.Flow { return l[:1] }, 1, api.ErrNone},
		{"without the last", func(l []api.Flow) []api.Flow { return l[:4] }, 4, api.ErrNone},
		{"without main", func(l []api.Flow) []api.Flow { return slices.Delete(l, 3, 4) }, 4, api.ErrNone},
		{"the last two exchanged", func(l []api.Flow) []api.Flow { l[3], l[4] = l[4], l[3]; return l }, 4, api.ErrArg},
		{"one twice", func(l []api.Flow) []api.Flow { return slices.Insert(l, 2, l[2]) }, 3, api.ErrArg},
		{"one twice, in the place of another one", func(l []api.Flow) []api.Flow { l[2] = l[1]; return l }, 2, api.ErrArg},
		{"one more", func(l []api.Flow) []api.Flow { return append(l, api.Flow{Name: "zero"}) }, 5, api.ErrArg},
		{"another one", func(l []api.Flow) []api.Flow { l[4].Name = "vpto"; return l }, 4, api.ErrArg},
		{"one that is not valid", func(l []api.Flow) []api.Flow { l[2].Blocks = nil; return l }, 2, api.ErrArg},
		{"two that are not valid", func(l []api.Flow) []api.Flow { l[2].Blocks, l[4].Blocks = nil, nil; return l }, 2, api.ErrArg},
		{"one that is not like its core, ahead of one that is missing", func(l []api.Flow) []api.Flow { l[3].Iter = true; return l[1:] }, 2, api.ErrArg},
		{"a call that does not fit, and one that is missing", func(l []api.Flow) []api.Flow {
			end(&l[0], api.End{Kind: api.EndCall, Name: "other", A: -1, To: 1})
			return l[:4]
		}, 4, api.ErrNone},
		{"a call of none of them", func(l []api.Flow) []api.Flow {
			end(&l[1], api.End{Kind: api.EndCall, Name: "other", A: -1, To: 1})
			return l
		}, 1, api.ErrCall},
		{"a call of an iterator", func(l []api.Flow) []api.Flow {
			end(&l[3], api.End{Kind: api.EndCall, Name: "upto", Args: []int{0}, A: -1, To: 1})
			return l
		}, 3, api.ErrCall},
		{"a call with an argument of another kind", func(l []api.Flow) []api.Flow {
			end(&l[3], api.End{Kind: api.EndCall, Name: "cell$get", Args: []int{0}, A: -1, To: 1})
			return l
		}, 3, api.ErrCall},
	} {
		l := x.change(copied(all))
		if at, e := lower.CheckFlows(p, l); at != x.at || e != x.e {
			t.Errorf("I2: CheckFlows of %s: %d, %d, not %d, %d", x.what, at, e, x.at, x.e)
		}
		if at, e := plainCheck(p, l); at != x.at || e != x.e {
			t.Errorf("the second way: CheckFlows of %s: %d, %d", x.what, at, e)
		}
	}
}

// More cores than a list of flows may have: All has a flow for each of them.
func TestManyCores(t *testing.T) {
	source := func(routinesOfEach int) string {
		l := []string{"proc p() is c0$f7() end"}
		for i := range 3 {
			var names, routines []string
			for k := range routinesOfEach {
				names = append(names, fmt.Sprint("f", k))
				routines = append(routines, fmt.Sprint("proc f", k, "() is put ", k, " end"))
			}
			l = append(l, fmt.Sprint("cluster c", i, " is ", strings.Join(names, ", "), " rep = int ", strings.Join(routines, " "), " end"))
		}
		return strings.Join(l, "\n")
	}
	p := programOf(t, source(19), "iter i() yields int is end", "proc main() is p() end")
	if l := flowsOf(t, p); len(l) != api.MaxFlows {
		t.Errorf("I1: %d", len(l))
	}
	if s := run(t, p); s != "done put 7" {
		t.Errorf("P9.2: %s", s)
	}
	p = programOf(t, source(20))
	l, e := lower.All(p)
	if len(l) != 61 || e != api.OK {
		t.Fatalf("I1: %d, %d", len(l), e)
	}
	for _, f := range l {
		asksLike(t, p, f.Name, f, true)
	}
	if at, e := lower.CheckFlows(p, l); at != 0 || e != api.ErrLimit {
		t.Errorf("I2: %d, %d", at, e)
	}
	if at, e := lower.CheckFlows(p, l[:60]); at != 60 || e != api.ErrNone {
		t.Errorf("I2: %d, %d", at, e)
	}
	if _, e := flow.CheckAll(l); e != api.ErrLimit {
		t.Errorf("H1: %d", e)
	}
}
