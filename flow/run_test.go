package flow_test

import (
	"fmt"
	"math/rand/v2"
	"slices"
	"strings"
	"testing"

	"argus/api"
	"argus/flow"
)

// H2: errors, and their order.
func TestErrorsOfRun(t *testing.T) {
	l := []api.Flow{
		iterator(proc("it", "w", block(yield(0, 1)), block(ret(-1))), 1, api.RegWord),
		with(proc("none", "ww", block(ret(-1))), 2, 0),
		with(proc("ref", "r", block(ret(-1))), 1, 0),
		with(proc("result", "r", block(ret(0), api.Ins{Op: api.InsNew})), 0, api.RegRef),
		sum(),
	}
	for _, x := range []struct {
		name  string
		args  []int
		steps int
		want  string
	}{
		{"none", []int{1, 2}, 1, "done in 1"},
		{"none", []int{1000000000, -1000000000}, 100000, "done in 1"},
		{"none", []int{1, 2}, 0, "spent in 0"},
		{"none", []int{1, 2}, -1, "error 2"},
		{"none", []int{1, 2}, 100001, "error 2"},
		{"none", []int{1}, 1, "error 1"},
		{"none", []int{1, 2, 3}, 1, "error 1"},
		{"none", nil, 1, "error 1"},
		{"none", []int{1, 1000000001}, 1, "error 1"},
		{"none", []int{-1000000001, 1}, 1, "error 1"},
		{"none", []int{1, 1 << 62}, 1, "error 1"},
		{"it", []int{1}, 1, "error 5"},
		{"ref", []int{1}, 1, "error 5"},
		{"result", nil, 1, "error 5"},
		{"other", nil, 1, "error 5"},
		{"", nil, 1, "error 5"},
		{"", nil, -1, "error 2"},
		{"other", []int{1000000001}, 1, "error 5"},
	} {
		if s := showRan(flow.Run(l, x.name, x.args, x.steps)); s != x.want {
			t.Errorf("H2: %s(%v), %d steps: %s", x.name, x.args, x.steps, s)
		}
	}
	for _, l := range [][]api.Flow{{sum(), sum()}, {{}}, {with(sum(), 0, 0)}} {
		if s := showRan(flow.Run(l, "", nil, -1)); s != "error 1" {
			t.Errorf("H2: %s", s)
		}
	}
	if s := showRan(flow.Run(nil, "", nil, 1)); s != "error 5" {
		t.Errorf("H2: %s", s)
	}
}

const least, most = -1000000000, 1000000000

// H2: instructions with words.
func TestWords(t *testing.T) {
	for _, x := range []struct {
		op   uint8
		a, b int
		want int
	}{
		{api.InsLt, 1, 2, 1}, {api.InsLt, 2, 2, 0}, {api.InsLt, 3, 2, 0}, {api.InsLt, least, most, 1}, {api.InsLt, -1, 0, 1},
		{api.InsLe, 1, 2, 1}, {api.InsLe, 2, 2, 1}, {api.InsLe, 3, 2, 0}, {api.InsLe, most, least, 0},
		{api.InsEq, 2, 2, 1}, {api.InsEq, 2, 3, 0}, {api.InsEq, 2, -2, 0},
		{api.InsAnd, 0, 0, 0}, {api.InsAnd, 1, 0, 0}, {api.InsAnd, 0, -5, 0}, {api.InsAnd, 2, 4, 1}, {api.InsAnd, -1, 1, 1},
		{api.InsOr, 0, 0, 0}, {api.InsOr, 7, 0, 1}, {api.InsOr, 0, -5, 1}, {api.InsOr, 2, 4, 1},
		{api.InsNot, 0, 1, 1}, {api.InsNot, 1, 1, 0}, {api.InsNot, -3, 0, 0},
		{api.InsMove, 5, 6, 5},
	} {
		i := api.Ins{Op: x.op, To: 2, A: 0, B: 1}
		if x.op == api.InsNot || x.op == api.InsMove {
			i.B = 0
		}
		f := with(proc("p", "www", block(ret(2), number(2, 77), i)), 2, api.RegWord)
		if s := run([]api.Flow{f}, x.a, x.b); s != fmt.Sprintf("done %d in 3", x.want) {
			t.Errorf("H2: %d of %d, %d: %s", x.op, x.a, x.b, s)
		}
	}
}

// H2: what instructions signal, and what they write otherwise.
func TestTries(t *testing.T) {
	for _, x := range []struct {
		op   uint8
		a, b int
		want string
	}{
		{api.TryAdd, 2, 3, "done 5"}, {api.TryAdd, most, 0, "done 1000000000"}, {api.TryAdd, most, 1, "signal overflow"}, {api.TryAdd, least, -1, "signal overflow"}, {api.TryAdd, least, 0, "done -1000000000"}, {api.TryAdd, most, least, "done 0"},
		{api.TrySub, 2, 3, "done -1"}, {api.TrySub, least, 1, "signal overflow"}, {api.TrySub, most, -1, "signal overflow"}, {api.TrySub, 0, most, "done -1000000000"},
		{api.TryMul, 2, -3, "done -6"}, {api.TryMul, most, most, "signal overflow"}, {api.TryMul, most, least, "signal overflow"}, {api.TryMul, most, -1, "done -1000000000"}, {api.TryMul, 31623, 31623, "signal overflow"}, {api.TryMul, 31622, 31622, "done 999950884"},
		{api.TryDiv, 7, 2, "done 3"}, {api.TryDiv, -7, 2, "done -4"}, {api.TryDiv, 7, -2, "done -3"}, {api.TryDiv, -7, -2, "done 4"}, {api.TryDiv, 6, -2, "done -3"}, {api.TryDiv, -6, 2, "done -3"}, {api.TryDiv, 0, 5, "done 0"}, {api.TryDiv, 5, 0, "signal zerodivide"}, {api.TryDiv, 0, 0, "signal zerodivide"}, {api.TryDiv, least, -1, "done 1000000000"}, {api.TryDiv, least, most, "done -1"}, {api.TryDiv, -1, most, "done -1"}, {api.TryDiv, -1, least, "done 1"}, {api.TryDiv, 1, 3, "done 0"},
		{api.TryMod, 7, 2, "done 1"}, {api.TryMod, -7, 2, "done 1"}, {api.TryMod, 7, -2, "done 1"}, {api.TryMod, -7, -2, "done 1"}, {api.TryMod, -8, 3, "done 1"}, {api.TryMod, -8, -3, "done 1"}, {api.TryMod, 8, -3, "done 2"}, {api.TryMod, -6, 3, "done 0"}, {api.TryMod, 5, 0, "signal zerodivide"}, {api.TryMod, -1, most, "done 999999999"}, {api.TryMod, least, -1, "done 0"},
	} {
		f := with(proc("p", "www", block(try(api.Ins{Op: x.op, To: 2, A: 0, B: 1}, 1), number(2, 77)), block(ret(2))), 2, api.RegWord)
		f.Signals = []string{"overflow", "zerodivide"}
		s := run([]api.Flow{f}, x.a, x.b)
		if want := x.want + map[bool]string{true: " in 3", false: " in 2"}[x.want[0] == 'd']; s != want {
			t.Errorf("H2: %d of %d, %d: %s, not %s", x.op, x.a, x.b, s, want)
		}
		// The register is not written on the way to a handler.
		f.Blocks[0].End.Others = 1
		s = run([]api.Flow{f}, x.a, x.b)
		if want := x.want + " in 3"; x.want[0] == 'd' && s != want || x.want[0] == 's' && s != "done 77 in 3" {
			t.Errorf("H2: %d of %d, %d: %s", x.op, x.a, x.b, s)
		}
	}
}

// objects is a program of a small language: each word of it is an instruction with registers 0 to 2 for words, and 3 to 5 for references.
func objects(t *testing.T, text string) api.Flow {
	t.Helper()
	f := proc("p", "wwwrrr")
	f.Signals = []string{"bounds", "overflow"}
	ops := map[string]uint8{
		"word": api.InsWord, "new": api.InsNew, "make": api.InsMake, "get": api.InsGet, "set": api.InsSet, "tag": api.InsTag, "size": api.InsSize, "put": api.InsPut, "eq": api.InsEq, "move": api.InsMove,
		"addh": api.TryAddh, "remh": api.TryRemh, "fetch": api.TryFetch, "store": api.TryStore,
	}
	var l []api.Ins
	for s := range strings.SplitSeq(text, ";") {
		var name string
		var n [9]int
		k, _ := fmt.Sscan(s, &name, &n[0], &n[1], &n[2], &n[3], &n[4], &n[5], &n[6], &n[7], &n[8])
		x := api.Ins{Op: ops[name]}
		switch name {
		case "word", "new":
			x.To, x.N = n[0], n[1]
		case "make":
			x.To, x.N, x.Args = n[0], n[1], slices.Clone(n[2:k-1])
		case "get":
			x.To, x.A, x.N = n[0], n[1], n[2]
		case "set":
			x.A, x.N, x.B = n[0], n[1], n[2]
		case "put":
			x.A = n[0]
		case "addh":
			x.A, x.B = n[0], n[1]
		case "store":
			x.A, x.B, x.Args = n[0], n[1], n[2:3]
		default:
			x.To, x.A, x.B = n[0], n[1], n[2]
		}
		if x.Op < api.TryAdd {
			l = append(l, x)
			continue
		}
		f.Blocks = append(f.Blocks, block(try(x, len(f.Blocks)+1), l...))
		l = nil
	}
	f.Blocks = append(f.Blocks, block(ret(-1), l...))
	return f
}

// H2: objects.
func TestObjects(t *testing.T) {
	for text, want := range map[string]string{
		"new 3 0; size 0 3; put 0":                                                                           "done put 0",
		"new 3 0; word 0 5; addh 3 0; size 1 3; put 1":                                                       "done put 1",
		"new 3 0; word 0 5; addh 3 0; word 0 6; addh 3 0; remh 1 3; put 1":                                   "done put 6",
		"new 3 0; word 0 5; addh 3 0; remh 1 3; put 1; remh 1 3; put 0":                                      "signal bounds put 5",
		"new 3 0; word 0 5; addh 3 0; word 1 1; fetch 2 3 1; put 2":                                          "done put 5",
		"new 3 0; word 0 5; addh 3 0; word 1 0; fetch 2 3 1; put 2":                                          "signal bounds",
		"new 3 0; word 0 5; addh 3 0; word 1 2; fetch 2 3 1; put 2":                                          "signal bounds",
		"new 3 0; word 0 5; addh 3 0; word 1 -1; fetch 2 3 1; put 2":                                         "signal bounds",
		"new 3 0; word 0 5; addh 3 0; word 1 1; store 3 1 1; fetch 2 3 1; put 2":                             "done put 1",
		"new 3 0; word 0 5; addh 3 0; word 1 2; store 3 1 1":                                                 "signal bounds",
		"new 3 0; word 1 0; store 3 1 1":                                                                     "signal bounds",
		"new 3 1; new 4 0; addh 3 4; word 1 1; fetch 5 3 1; eq 0 4 5; put 0":                                 "done put 1",
		"new 3 1; new 4 0; addh 3 4; new 4 0; word 1 1; fetch 5 3 1; eq 0 4 5; put 0":                        "done put 0",
		"new 3 1; new 4 0; addh 3 4; remh 5 3; eq 0 4 5; put 0; remh 5 3":                                    "signal bounds put 1",
		"new 3 1; addh 3 3; word 1 1; fetch 4 3 1; eq 0 3 4; put 0; size 0 4; put 0":                         "done put 1 1",
		"new 3 1; new 4 1; addh 3 3; word 1 1; store 3 1 4; fetch 5 3 1; eq 0 4 5; put 0":                    "done put 1",
		"new 3 0; move 4 3; word 0 5; addh 4 0; size 1 3; put 1; eq 2 3 4; put 2":                            "done put 1 1",
		"new 3 0; new 4 0; eq 0 3 4; put 0":                                                                  "done put 0",
		"word 0 7; make 3 2 0; tag 1 3; put 1; get 1 3 0; put 1":                                             "done put 2 7",
		"word 0 7; word 1 8; make 3 5 0 1 0 1 0 1; get 2 3 5; put 2; get 2 3 4; put 2":                       "done put 8 7",
		"word 0 7; make 3 0 0; word 0 9; get 1 3 0; put 1; set 3 0 0; get 1 3 0; put 1":                      "done put 7 9",
		"word 0 7; make 3 0 0; move 4 3; set 4 0 0; word 0 8; set 4 0 0; get 1 3 0; put 1":                   "done put 8",
		"word 0 7; new 4 0; make 3 1 0 4; get 5 3 1; eq 1 4 5; put 1; set 3 1 3; get 5 3 1; eq 1 3 5; put 1": "done put 1 1",
		"word 0 7; make 3 1 0; make 4 1 0; eq 0 3 4; put 0":                                                  "done put 0",
		// What is not found.
		"word 0 7; put 0; make 3 0 0; size 1 3":    "error 83",
		"word 0 7; make 3 0 0; addh 3 0":           "error 83",
		"word 0 7; make 3 0 0; remh 0 3":           "error 83",
		"word 0 7; make 3 0 0; fetch 0 3 0":        "error 83",
		"word 0 7; make 3 0 0; store 3 0 0":        "error 83",
		"word 0 7; make 3 0 0; get 1 3 1":          "error 83",
		"word 0 7; make 3 0 0; get 4 3 0":          "error 83",
		"word 0 7; make 3 0 0; set 3 1 0":          "error 83",
		"word 0 7; make 3 0 0; set 3 0 3":          "error 83",
		"word 0 7; new 4 0; make 3 0 4; get 1 3 0": "error 83",
		"word 0 7; new 4 0; make 3 0 4; set 3 0 0": "error 83",
		"new 3 0; tag 0 3":                         "error 83",
		"new 3 1; tag 0 3":                         "error 83",
		"new 3 0; get 0 3 0":                       "error 83",
		"new 3 0; word 0 1; addh 3 0; get 0 3 0":   "error 83",
		"new 3 0; word 0 1; addh 3 0; set 3 0 0":   "error 83",
		"new 3 0; addh 3 3":                        "error 83",
		"new 3 1; word 0 1; addh 3 0":              "error 83",
		"new 3 0; remh 4 3":                        "error 83",
		"new 3 1; remh 0 3":                        "error 83",
		"new 3 0; word 0 1; fetch 4 3 0":           "error 83",
		"new 3 1; word 0 1; fetch 0 3 0":           "error 83",
		"new 3 0; word 0 1; store 3 0 3":           "error 83",
		"new 3 1; word 0 1; store 3 0 0":           "error 83",
		"new 3 1; word 0 0; store 3 0 0":           "error 83",
	} {
		s, _, _ := strings.Cut(run([]api.Flow{objects(t, text)}), " in ")
		if s != want {
			t.Errorf("H2: %s: %s, not %s", text, s, want)
		}
	}
}

// H2: there are at most 200 elements, and 5000 objects.
func TestLimitsOfObjects(t *testing.T) {
	fill := with(proc("p", "wwwr",
		block(goTo(1), api.Ins{Op: api.InsNew, To: 3}, number(1, 1), number(2, 0)),
		block(try(api.Ins{Op: api.TryAddh, A: 3, B: 2}, 2)),
		block(try(api.Ins{Op: api.TryAdd, To: 2, A: 2, B: 1}, 1)),
	), 0, 0)
	fill.Blocks[1].End = caught(fill.Blocks[1].End, "overflow", 3)
	fill.Blocks = append(fill.Blocks, block(ret(-1), api.Ins{Op: api.InsSize, To: 0, A: 3}, put(0), put(2)))
	if s := run([]api.Flow{fill}); s != "done put 200 200 in 409" {
		t.Errorf("H2: %s", s)
	}
	for _, x := range []api.Ins{{Op: api.InsNew, To: 3}, {Op: api.InsMake, To: 3, Args: []int{2}}} {
		make := with(proc("p", "wwwr",
			block(goTo(1), number(1, 1), number(2, 0)),
			block(try(api.Ins{Op: api.TryAdd, To: 2, A: 2, B: 1}, 2), x, put(2)),
			block(branch(1, 1, 1), api.Ins{Op: api.InsLe, To: 1, A: 2, B: 0}, api.Ins{Op: api.InsMove, To: 1, A: 1}, number(1, 1)),
		), 1, 0)
		r, e := flow.Run([]api.Flow{make}, "p", []int{0}, api.MaxSteps)
		if e != api.OK || r.Kind != api.RanSpent || len(r.Put) != 5000 || r.Put[4999] != 4999 || r.Steps != 3+5000*7+1 {
			t.Errorf("H2: %d, %d, %d objects, %d steps", e, r.Kind, len(r.Put), r.Steps)
		}
	}
}

// H2: calls, results, signals and their handlers.
func TestCallsAndSignals(t *testing.T) {
	half := with(proc("half", "www", block(branch(0, 1, 2), number(1, 2)), block(try(api.Ins{Op: api.TryDiv, To: 2, A: 0, B: 1}, 3)), block(signal("low")), block(ret(2))), 1, api.RegWord)
	half.Signals = []string{"low"}
	main := func(e api.End, signals ...string) api.Flow {
		f := with(proc("main", "ww", block(e, number(1, 77)), block(ret(1)), block(ret(0)), block(ret(1), number(1, 88))), 1, api.RegWord)
		f.Signals = signals
		return f
	}
	for _, x := range []struct {
		what string
		f    api.Flow
		arg  int
		want string
	}{
		{"a result", main(call("half", 1, 1, 0)), 8, "done 4 in 7"},
		{"a result left out", main(call("half", -1, 1, 0)), 8, "done 77 in 7"},
		{"a result to its argument", main(call("half", 0, 2, 0)), 8, "done 4 in 7"},
		{"a signal that leaves", main(call("half", 1, 1, 0), "low"), 0, "signal low in 5"},
		{"one that is not declared", main(call("half", 1, 1, 0), "high"), 0, "signal failure in 5"},
		{"a handler", main(caught(call("half", 1, 1, 0), "low", 3)), 0, "done 88 in 7"},
		{"what a handler does not see", main(caught(call("half", 1, 1, 0), "low", 1)), 0, "done 77 in 6"},
		{"another handler", main(caught(call("half", 1, 1, 0), "high", 3)), 0, "signal failure in 5"},
		{"the second one", main(caught(call("half", 1, 1, 0), "high", 1, "low", 3)), 0, "done 88 in 7"},
		{"the other ones", main(caught(call("half", 1, 1, 0), "others", 3)), 0, "done 88 in 7"},
		{"its own ahead of the other ones", main(caught(call("half", 1, 1, 0), "low", 3, "others", 1)), 0, "done 88 in 7"},
		{"the other ones for it", main(caught(call("half", 1, 1, 0), "high", 1, "others", 3)), 0, "done 88 in 7"},
		{"no signal", main(caught(call("half", 1, 1, 0), "low", 3, "others", 3)), 6, "done 3 in 7"},
		{"a signal of its own", main(signal("low"), "low"), 6, "signal low in 2"},
		{"one that is not declared, of its own", main(signal("low")), 6, "signal failure in 2"},
		{"failure", main(signal("failure")), 6, "signal failure in 2"},
		{"failure, declared", main(signal("failure"), "failure"), 6, "signal failure in 2"},
	} {
		if s := run([]api.Flow{x.f, half}, x.arg); s != x.want {
			t.Errorf("H2: %s: %s, not %s", x.what, s, x.want)
		}
	}
	// What is not declared comes to a handler as failure.
	half.Signals = nil
	if s := run([]api.Flow{main(caught(call("half", 1, 1, 0), "low", 1, "failure", 3)), half}, 0); s != "done 88 in 7" {
		t.Errorf("H2: %s", s)
	}
}

// H2: the registers of a frame are its own, and objects are shared.
func TestFrames(t *testing.T) {
	inner := with(proc("inner", "wrw", block(try(api.Ins{Op: api.TryAddh, A: 1, B: 0}, 1), number(2, 5)), block(ret(-1), number(0, 9), api.Ins{Op: api.InsNew, To: 1})), 2, 0)
	main := with(proc("main", "wrww",
		block(call("inner", -1, 1, 0, 1), api.Ins{Op: api.InsNew, To: 1}, number(2, 1)),
		block(call("inner", -1, 2, 2, 1), put(0), put(2)),
		block(ret(3), api.Ins{Op: api.InsSize, To: 3, A: 1})), 1, api.RegWord)
	if s := run([]api.Flow{main, inner}, 4); s != "done 2 put 4 1 in 18" {
		t.Errorf("H2: %s", s)
	}
}

// deep calls itself as often as its argument says, and opens and resumes an iterator there.
func deep() []api.Flow {
	main := with(proc("deep", "wwwi",
		block(branch(0, 1, 2), number(1, -1), put(0)),
		block(try(api.Ins{Op: api.TryAdd, To: 2, A: 0, B: 1}, 3)),
		block(open("it", 3, 4)),
		block(call("deep", -1, 5, 2)),
		block(next(3, 2, 5, 5)),
		block(ret(-1), put(1)),
	), 1, 0)
	return []api.Flow{main, iterator(proc("it", "w", block(yield(0, 1), number(0, 7)), block(ret(-1))), 0, api.RegWord)}
}

// H2: at most 400 routines stand inside each other; an iteration is one of them.
func TestDepth(t *testing.T) {
	for depth, want := range map[int]uint8{0: api.RanDone, 397: api.RanDone, 398: api.RanDone, 399: api.RanSpent, 400: api.RanSpent, 401: api.RanSpent} {
		r, e := flow.Run(deep(), "deep", []int{depth}, api.MaxSteps)
		if r.Kind != want || e != api.OK {
			t.Errorf("H2: %d: %d, %d, %d steps", depth, r.Kind, e, r.Steps)
		}
		if want == api.RanSpent && len(r.Put) != 400 {
			t.Errorf("H2: %d were put", len(r.Put))
		}
	}
	// The step of the call is paid.
	r, _ := flow.Run(deep(), "deep", []int{1000}, api.MaxSteps)
	if r.Steps != 400*5 {
		t.Errorf("H2: %d steps", r.Steps)
	}
	r, _ = flow.Run(deep(), "deep", []int{399}, api.MaxSteps)
	if r.Steps != 399*5+5 {
		t.Errorf("H2: %d steps", r.Steps)
	}
}

// H2: an iteration that is stuck is so however many routines there are.
func TestStuckAtTheDepth(t *testing.T) {
	l := deep()
	l[0].Blocks[4].Ins = []api.Ins{{Op: api.InsClose, A: 3}}
	for depth := 397; depth < 402; depth++ {
		want := api.ErrStuck
		if depth > 399 {
			want = api.OK
		}
		if _, e := flow.Run(l, "deep", []int{depth}, api.MaxSteps); e != want {
			t.Errorf("H2: %d: %d", depth, e)
		}
	}
}

// upto yields the numbers from its argument down to 1, and signals low at 0 if it is declared.
func upto(signals ...string) api.Flow {
	f := iterator(proc("upto", "ww", block(branch(0, 1, 3)), block(yield(0, 2)), block(try(api.Ins{Op: api.TryAdd, To: 0, A: 0, B: 1}, 0), number(1, -1)), block(ret(-1))), 1, api.RegWord)
	if f.Signals = signals; len(signals) > 0 {
		f.Blocks[3].End = signal("low")
	}
	return f
}

// H2: iterations.
func TestIterations(t *testing.T) {
	loop := func(more ...api.Block) api.Flow {
		return with(proc("main", "wwii", append([]api.Block{
			block(open("upto", 2, 1, 0), number(1, 77)),
			block(next(2, 1, 2, 3)),
			block(goTo(1), put(1)),
			block(ret(1))}, more...)...), 1, api.RegWord)
	}
	closes := api.Ins{Op: api.InsClose, A: 2}
	for _, x := range []struct {
		what string
		f    api.Flow
		arg  int
		want string
	}{
		{"a loop", loop(), 3, "done 1 put 3 2 1 in 27"},
		{"no rounds", loop(), 0, "done 77 in 6"},
		{"resumed when it has ended", func() api.Flow { f := loop(); f.Blocks[3] = block(next(2, 1, 2, 3)); return f }(), 1, "error 83"},
		{"resumed when it was given up", func() api.Flow { f := loop(); f.Blocks[2].Ins = []api.Ins{closes}; return f }(), 1, "error 83"},
		{"given up at once", func() api.Flow { f := loop(); f.Blocks[1].Ins = []api.Ins{closes}; return f }(), 1, "error 83"},
		{"given up when it has ended", func() api.Flow { f := loop(); f.Blocks[3].Ins = []api.Ins{closes}; return f }(), 1, "done 1 put 1 in 14"},
		{"given up twice", func() api.Flow { f := loop(); f.Blocks[2] = block(goTo(3), closes, closes); return f }(), 1, "done 1 in 9"},
		{"opened again", func() api.Flow { f := loop(); f.Blocks[2] = block(goTo(0), put(1)); return f }(), 1, "spent"},
		{"given up and opened again", func() api.Flow { f := loop(); f.Blocks[2] = block(branch(1, 3, 0), closes, put(1)); return f }(), 5, "done 5 put 5 in 9"},
	} {
		if s := run([]api.Flow{x.f, upto()}, x.arg); s != x.want && (x.want != "spent" || !strings.HasPrefix(s, "spent put 1 1 1 1")) {
			t.Errorf("H2: %s: %s, not %s", x.what, s, x.want)
		}
	}
	// Signals of an iteration go to the handlers, and it has ended then.
	for _, x := range []struct {
		what string
		e    api.End
		want string
	}{
		{"no handler", next(2, 1, 2, 3), "signal failure put 1"},
		{"a handler", caught(next(2, 1, 2, 3), "low", 3), "done 1 put 1"},
		{"another one", caught(next(2, 1, 2, 3), "high", 3), "signal failure put 1"},
		{"the other ones", caught(next(2, 1, 2, 3), "others", 3), "done 1 put 1"},
		{"resumed then", caught(next(2, 1, 2, 3), "low", 1), "error 83"},
	} {
		f := loop()
		f.Blocks[1].End = x.e
		if s, _, _ := strings.Cut(run([]api.Flow{f, upto("low")}, 1), " in "); s != x.want {
			t.Errorf("H2: %s: %s, not %s", x.what, s, x.want)
		}
	}
	// Two iterations of one iterator are apart.
	two := with(proc("main", "wwii",
		block(open("upto", 2, 1, 0)), block(open("upto", 3, 2, 0)),
		block(next(2, 1, 3, 6)), block(next(2, 1, 4, 6), put(1)), block(next(3, 1, 5, 6), put(1)), block(next(2, 1, 6, 6), put(1)),
		block(ret(-1), put(0))), 1, 0)
	if s, _, _ := strings.Cut(run([]api.Flow{two, upto()}, 9), " in "); s != "done put 9 8 9 9" {
		t.Errorf("H2: %s", s)
	}
}

// H2: phis take what there was, all at once.
func TestPhisAtOnce(t *testing.T) {
	swap := with(proc("p", "wwww",
		block(goTo(1), number(3, -1), number(1, 10), number(2, 20)),
		block(try(api.Ins{Op: api.TryAdd, To: 0, A: 0, B: 3}, 2), phi(1, 1, 2), phi(2, 2, 1), put(1), put(2)),
		block(branch(0, 1, 3)),
		block(ret(-1), phi(1, 2), phi(2, 1), put(1), put(2))), 1, 0)
	if s := run([]api.Flow{swap}, 3); s != "done put 10 20 20 10 10 20 20 10 in 19" {
		t.Errorf("H2: %s", s)
	}
	// What the end of the block ahead writes is there; on another way it is not.
	tried := with(proc("p", "ww",
		block(caught(try(api.Ins{Op: api.TryAdd, To: 1, A: 0, B: 0}, 1), "overflow", 2), number(1, 5)),
		block(ret(-1), phi(1, 1), put(1)), block(ret(-1), phi(0, 1), put(0))), 1, 0)
	if s := run([]api.Flow{tried}, 3); s != "done put 6 in 4" {
		t.Errorf("H2: %s", s)
	}
	if s := run([]api.Flow{tried}, most); s != "done put 5 in 4" {
		t.Errorf("H2: %s", s)
	}
	// A block that is entered from several ones; the Args stand beside the blocks ahead in their order.
	from := with(proc("p", "wwww",
		block(branch(0, 2, 3), number(1, 10), number(2, 20), number(3, 30)),
		block(ret(-1), phi(0, 1, 2, 3), put(0)),
		block(branch(1, 1, 3)), block(branch(0, 4, 1)), block(goTo(1))), 1, 0)
	for arg, want := range map[int]string{0: "done put 20 in 7", 1: "done put 10 in 7"} {
		if s := run([]api.Flow{from}, arg); s != want {
			t.Errorf("H2: %s", s)
		}
	}
}

// H2: slots are of a frame.
func TestSlots(t *testing.T) {
	inner := proc("inner", "wr", block(ret(-1), number(0, 5), api.Ins{Op: api.InsNew, To: 1}, api.Ins{Op: api.InsSpill, A: 0, N: 0}, api.Ins{Op: api.InsSpill, A: 1, N: 1}))
	main := with(proc("main", "wwrrw",
		block(call("inner", -1, 1), api.Ins{Op: api.InsNew, To: 2}, api.Ins{Op: api.InsSpill, A: 0, N: 0}, api.Ins{Op: api.InsSpill, A: 2, N: 1}, number(0, 9)),
		block(ret(4), api.Ins{Op: api.InsLoad, To: 1, N: 0}, api.Ins{Op: api.InsLoad, To: 3, N: 1}, put(1), api.Ins{Op: api.InsEq, To: 4, A: 2, B: 3})), 1, api.RegWord)
	inner.Slots, main.Slots = []uint8{1, 2}, []uint8{1, 2}
	if s := run([]api.Flow{main, inner}, 4); s != "done 1 put 4 in 15" {
		t.Errorf("H2: %s", s)
	}
}

// H2: a run that is spent in the middle has put what it had put; a step is paid ahead of what is stuck.
func TestSteps(t *testing.T) {
	f := objects(t, "word 0 1; put 0; put 0; new 3 0; tag 1 3; put 1")
	for steps, want := range []string{"spent in 0", "spent in 1", "spent put 1 in 2", "spent put 1 1 in 3", "spent put 1 1 in 4", "error 83", "error 83"} {
		if s := showRan(flow.Run([]api.Flow{f}, "p", nil, steps)); s != want {
			t.Errorf("H2: %d: %s, not %s", steps, s, want)
		}
	}
	loop := proc("p", "", block(goTo(0)))
	if s := showRan(flow.Run([]api.Flow{loop}, "p", nil, 100000)); s != "spent in 100000" {
		t.Errorf("H2: %s", s)
	}
}

// The two machines agree on the programs of these tests, too.
func TestBothMachines(t *testing.T) {
	l := sorted(deep())
	r := rand.New(rand.NewPCG(8, 8))
	for range 20 {
		args, steps := []int{r.IntN(450)}, r.IntN(3000)
		a, e := flow.Run(l, "deep", args, steps)
		b, f := plainRun(l, "deep", args, steps)
		if e != f || !same(a, b) {
			t.Errorf("H2: %s, not %s", showRan(a, e), showRan(b, f))
		}
	}
}
