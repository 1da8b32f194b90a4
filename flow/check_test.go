package flow_test

import (
	"fmt"
	"slices"
	"strings"
	"testing"

	"argus/api"
	"argus/flow"
)

// full has registers 0 and 1 for words, 2 and 3 for references, 4 and 5 for iterations that are open, and slots 0 and 1 for a word and a reference, all written at the beginning; its block 2 is up to the test, and leads to the block 3.
func full(b api.Block) api.Flow {
	f := proc("full", "wwrrii",
		block(open("it", 4, 1), number(0, 1), number(1, 2), api.Ins{Op: api.InsNew, To: 2}, api.Ins{Op: api.InsNew, To: 3, N: 1}, api.Ins{Op: api.InsSpill, A: 0, N: 0}, api.Ins{Op: api.InsSpill, A: 2, N: 1}),
		block(open("it", 5, 2)), b, block(ret(-1)))
	f.Slots = []uint8{api.RegWord, api.RegRef}
	return f
}

// shape is an instruction as it is to be, and what its fields may be: for each of To, A, B one of w, r, v, i, or empty for 0.
type shape struct {
	x          api.Ins
	to, a, b   string
	likeA      bool // A is of the kind of To, or B of the kind of A
	low, high  int  // of N
	args, most int  // how many Args
}

func shapes() []shape {
	l := []shape{
		{x: api.Ins{Op: api.InsWord, To: 0}, to: "w", low: -1000000000, high: 1000000000},
		{x: api.Ins{Op: api.InsMove, To: 0, A: 1}, to: "v", a: "v", likeA: true},
		{x: api.Ins{Op: api.InsMove, To: 2, A: 3}, to: "v", a: "v", likeA: true},
		{x: api.Ins{Op: api.InsEq, To: 0, A: 0, B: 1}, to: "w", a: "v", b: "v", likeA: true},
		{x: api.Ins{Op: api.InsEq, To: 0, A: 2, B: 3}, to: "w", a: "v", b: "v", likeA: true},
		{x: api.Ins{Op: api.InsNot, To: 0, A: 1}, to: "w", a: "w"},
		{x: api.Ins{Op: api.InsNew, To: 2}, to: "r", high: 1},
		{x: api.Ins{Op: api.InsMake, To: 2, Args: []int{0}}, to: "r", high: 5, args: 1, most: 6},
		{x: api.Ins{Op: api.InsGet, To: 0, A: 2}, to: "v", a: "r", high: 5},
		{x: api.Ins{Op: api.InsGet, To: 3, A: 2}, to: "v", a: "r", high: 5},
		{x: api.Ins{Op: api.InsSet, A: 2, B: 0}, a: "r", b: "v", high: 5},
		{x: api.Ins{Op: api.InsSet, A: 2, B: 3}, a: "r", b: "v", high: 5},
		{x: api.Ins{Op: api.InsTag, To: 0, A: 2}, to: "w", a: "r"},
		{x: api.Ins{Op: api.InsSize, To: 0, A: 2}, to: "w", a: "r"},
		{x: api.Ins{Op: api.InsPut, A: 0}, a: "w"},
		{x: api.Ins{Op: api.InsClose, A: 4}, a: "i"},
		{x: api.Ins{Op: api.TryAddh, A: 2, B: 0}, a: "r", b: "v"},
		{x: api.Ins{Op: api.TryRemh, To: 0, A: 2}, to: "v", a: "r"},
		{x: api.Ins{Op: api.TryFetch, To: 0, A: 2, B: 1}, to: "v", a: "r", b: "w"},
		{x: api.Ins{Op: api.TryStore, A: 2, B: 1, Args: []int{0}}, a: "r", b: "w", args: 1, most: 1},
	}
	for _, op := range []uint8{api.InsLt, api.InsLe, api.InsAnd, api.InsOr, api.TryAdd, api.TrySub, api.TryMul, api.TryDiv, api.TryMod} {
		l = append(l, shape{x: api.Ins{Op: op, To: 0, A: 0, B: 1}, to: "w", a: "w", b: "w"})
	}
	return l
}

// asked tells whether a register may stand where a kind is asked for.
func asked(kind string, reg int) bool {
	switch kind {
	case "":
		return reg == 0
	case "v":
		return 0 <= reg && reg < 4
	}
	return 0 <= reg && reg < 6 && strings.IndexByte("wri", kind[0]) == reg/2
}

// checkIns looks at a flow with an instruction.
func checkIns(t *testing.T, x api.Ins, want bool) {
	t.Helper()
	b := block(goTo(3), x)
	if x.Op >= api.TryAdd {
		b = block(try(x, 3))
	}
	if e := flow.Check(full(b)); (e == api.OK) != want || e != api.OK && e != api.ErrFlow {
		t.Errorf("H1: %d: %+v", e, x)
	}
}

// H1: each field of each instruction, with what may stand there and what may not.
func TestFieldsOfInstructions(t *testing.T) {
	for _, s := range shapes() {
		for _, reg := range []int{-2, -1, 0, 1, 2, 3, 4, 5, 6, 1200, -1 << 63} {
			x := s.x
			x.To = reg
			isLike := !s.likeA || s.b != "" || reg/2 == x.A/2
			checkIns(t, x, asked(s.to, reg) && isLike)
			x = s.x
			x.A = reg
			isLike = !s.likeA || s.b == "" && reg/2 == x.To/2 || s.b != "" && reg/2 == x.B/2
			checkIns(t, x, asked(s.a, reg) && isLike)
			x = s.x
			x.B = reg
			isLike = !s.likeA || s.b == "" || reg/2 == x.A/2
			checkIns(t, x, asked(s.b, reg) && isLike)
			for i := range s.x.Args {
				x = s.x
				x.Args = slices.Clone(x.Args)
				x.Args[i] = reg
				checkIns(t, x, asked("v", reg))
			}
		}
		for _, n := range []int{s.low - 1, s.low, 0, 1, 2, 5, 6, s.high, s.high + 1, 1 << 62} {
			x := s.x
			x.N = n
			checkIns(t, x, s.low <= n && n <= s.high)
		}
		for n := range 9 {
			x := s.x
			x.Args = make([]int, n)
			checkIns(t, x, s.args <= n && n <= s.most)
		}
	}
}

// H1: slots have the kinds of the registers.
func TestFieldsOfSlots(t *testing.T) {
	for n, want := range map[int][2]bool{-1: {}, 0: {true, false}, 1: {false, true}, 2: {}} {
		for k, reg := range []int{0, 2} {
			checkIns(t, api.Ins{Op: api.InsLoad, To: reg, N: n}, want[k])
			checkIns(t, api.Ins{Op: api.InsSpill, A: reg, N: n}, want[k])
		}
		checkIns(t, api.Ins{Op: api.InsLoad, To: 4, N: n}, false)
		checkIns(t, api.Ins{Op: api.InsSpill, A: 4, N: n}, false)
		checkIns(t, api.Ins{Op: api.InsLoad, To: 0, A: 1, N: n}, false)
		checkIns(t, api.Ins{Op: api.InsLoad, To: 0, B: 1, N: n}, false)
		checkIns(t, api.Ins{Op: api.InsSpill, To: 1, A: 0, N: n}, false)
		checkIns(t, api.Ins{Op: api.InsSpill, A: 0, B: 1, N: n}, false)
		checkIns(t, api.Ins{Op: api.InsLoad, To: 0, N: n, Args: []int{0}}, false)
	}
}

// H1: Ops that there are not, and instructions where they may not stand.
func TestPlacesOfInstructions(t *testing.T) {
	for op := range 256 {
		isThere := 1 <= op && op <= 19 || 30 <= op && op <= 38
		if !isThere {
			checkIns(t, api.Ins{Op: uint8(op)}, false)
			if e := flow.Check(full(block(goTo(3), api.Ins{Op: uint8(op)}))); e != api.ErrFlow {
				t.Errorf("H1: Op %d: %d", op, e)
			}
		}
	}
	for _, s := range shapes() {
		b := block(try(s.x, 3))
		if s.x.Op >= api.TryAdd {
			b = block(goTo(3), s.x)
		}
		if e := flow.Check(full(b)); e != api.ErrFlow {
			t.Errorf("H1: %d: %+v", e, b)
		}
		// The Ins of all ends but EndTry are zero.
		for _, e := range ends() {
			if e.Kind == api.EndTry {
				continue
			}
			e.Ins = s.x
			if err := flow.Check(full(block(e))); err != api.ErrFlow {
				t.Errorf("H1: %d: %+v", err, e)
			}
		}
	}
}

// ends returns ends that are as they are to be.
func ends() []api.End {
	return []api.End{
		goTo(3), branch(0, 3, 3), ret(-1), signal("low"), try(api.Ins{Op: api.TryAdd, To: 0, A: 0, B: 1}, 3),
		call("p", -1, 3), call("p", 0, 3, 0, 1, 2, 3, 0, 0), open("it", 6, 3, 2), next(4, 0, 3, 3), next(4, 2, 3, 3),
	}
}

// checkEnd looks at a flow with an end.
func checkEnd(t *testing.T, e api.End, want bool) {
	t.Helper()
	f := full(block(e))
	f.Regs = append(f.Regs, api.RegIter)
	if got := flow.Check(f); (got == api.OK) != want || got != api.OK && got != api.ErrFlow {
		t.Errorf("H1: %d: %+v", got, e)
	}
}

// H1: each field of each end.
func TestFieldsOfEnds(t *testing.T) {
	a := map[uint8]string{api.EndIf: "w", api.EndCall: "v-", api.EndNext: "i"}
	for _, e := range ends() {
		checkEnd(t, e, true)
		for reg := -2; reg < 8; reg++ {
			x := e
			x.A = reg
			kind := a[e.Kind]
			isRight := asked(strings.TrimSuffix(kind, "-"), reg) || kind == "v-" && reg == -1
			if e.Kind == api.EndReturn {
				isRight = reg == -1
			}
			if e.Kind == api.EndOpen {
				// The registers 4 and 5 are opened already.
				isRight = reg == 6
			}
			if e.Kind != api.EndNext || reg != 6 {
				checkEnd(t, x, isRight)
			}
			x = e
			x.B = reg
			checkEnd(t, x, e.Kind == api.EndNext && asked("v", reg) || e.Kind != api.EndNext && reg == 0)
			for i := range e.Args {
				x = e
				x.Args = slices.Clone(e.Args)
				x.Args[i] = reg
				checkEnd(t, x, asked("v", reg))
			}
		}
		leads := e.Kind != api.EndReturn && e.Kind != api.EndSignal
		forks := e.Kind == api.EndIf || e.Kind == api.EndNext
		handles := e.Kind == api.EndTry || e.Kind == api.EndCall || e.Kind == api.EndNext
		calls := e.Kind == api.EndCall || e.Kind == api.EndOpen
		for to := -2; to < 6; to++ {
			isBlock := 0 <= to && to < 4
			x := e
			x.To = to
			checkEnd(t, x, to == 0 || leads && isBlock)
			x = e
			x.Else = to
			checkEnd(t, x, to == 0 || forks && isBlock)
			x = e
			x.Others = to
			checkEnd(t, x, to == -1 || handles && isBlock)
			checkEnd(t, caught(e, "low", to), handles && isBlock)
			checkEnd(t, caught(e, "low", 1, "a", to), handles && isBlock)
		}
		for n := range 9 {
			x := e
			x.Args = make([]int, n)
			checkEnd(t, x, n == 0 || calls && n <= 6)
		}
	}
	for kind := range 256 {
		if kind == 0 || kind > 9 {
			checkEnd(t, api.End{Kind: uint8(kind), Others: -1}, false)
		}
	}
}

// H1: names in ends, and handlers.
func TestNamesOfEnds(t *testing.T) {
	long := strings.Repeat("n", 120)
	for name, want := range map[string][2]bool{
		"": {}, "a": {true, true}, "z9": {true, true}, "0": {true, true}, "abcdefghijkl": {true, true}, "abcdefghijklm": {true, false}, long: {true, false}, long + "n": {},
		"A": {true, false}, "a_b": {true, false}, "a$b": {true, false}, "!": {true, false}, "~": {true, false}, " ": {}, "a b": {}, "\x7f": {}, "\x80": {}, "é": {}, "a\n": {}, "a\x00": {},
	} {
		for _, e := range ends() {
			x := e
			x.Name = name
			switch e.Kind {
			case api.EndCall, api.EndOpen:
				checkEnd(t, x, want[0])
			case api.EndSignal:
				checkEnd(t, x, want[1])
			default:
				checkEnd(t, x, name == "")
			}
			handles := e.Kind == api.EndTry || e.Kind == api.EndCall || e.Kind == api.EndNext
			checkEnd(t, caught(e, name, 1), handles && want[1])
			checkEnd(t, caught(e, "x", 2, name, 1), handles && want[1])
			checkEnd(t, caught(e, name, 1, name, 2), false)
		}
	}
	l := []any{}
	for i := range 9 {
		checkEnd(t, caught(call("p", -1, 3), l...), i <= 7)
		l = append(l, fmt.Sprint("s", 9-i), i%4)
	}
}

// H1: results and arguments.
func TestHeads(t *testing.T) {
	for _, x := range []struct {
		what string
		f    api.Flow
		want api.Errno
	}{
		{"no registers", proc("p", "", block(ret(-1))), api.OK},
		{"no blocks", proc("p", ""), api.ErrFlow},
		{"no name", proc("", "", block(ret(-1))), api.ErrFlow},
		{"a name with a blank", proc("p q", "", block(ret(-1))), api.ErrFlow},
		{"a name with a sign", proc("!p~", "", block(ret(-1))), api.OK},
		{"a name with a letter beyond", proc("pé", "", block(ret(-1))), api.ErrFlow},
		{"a long name", proc(strings.Repeat("n", 120), "", block(ret(-1))), api.OK},
		{"a longer name", proc(strings.Repeat("n", 121), "", block(ret(-1))), api.ErrFlow},
		{"6 arguments", with(proc("p", "wrwrwr", block(ret(-1))), 6, 0), api.OK},
		{"7 arguments", with(proc("p", "wrwrwrw", block(ret(-1))), 7, 0), api.ErrFlow},
		{"-1 arguments", with(proc("p", "w", block(ret(-1))), -1, 0), api.ErrFlow},
		{"more arguments than registers", with(proc("p", "w", block(ret(-1))), 2, 0), api.ErrFlow},
		{"an iteration as argument", with(proc("p", "wi", block(ret(-1))), 2, 0), api.ErrFlow},
		{"an iteration behind the arguments", with(proc("p", "wi", block(ret(-1))), 1, 0), api.OK},
		{"a word", with(proc("p", "w", block(ret(0))), 1, api.RegWord), api.OK},
		{"a reference", with(proc("p", "wr", block(ret(1))), 2, api.RegRef), api.OK},
		{"a word for a reference", with(proc("p", "wr", block(ret(0))), 2, api.RegRef), api.ErrFlow},
		{"a reference for a word", with(proc("p", "wr", block(ret(1))), 2, api.RegWord), api.ErrFlow},
		{"no result", with(proc("p", "wr", block(ret(-1))), 2, api.RegWord), api.ErrFlow},
		{"a result too many", with(proc("p", "wr", block(ret(0))), 2, 0), api.ErrFlow},
		{"a result that is no register", with(proc("p", "wr", block(ret(2))), 2, api.RegWord), api.ErrFlow},
		{"a kind that there is not", with(proc("p", "wr", block(signal("a"))), 2, 4), api.ErrFlow},
		{"an iteration as result", with(proc("p", "i", block(open("it", 0, 1)), block(ret(0))), 0, api.RegIter), api.OK},
		{"yields in a procedure", with(proc("p", "w", block(yield(0, 0))), 1, api.RegWord), api.ErrFlow},
		{"an iterator", iterator(proc("p", "w", block(yield(0, 1)), block(ret(-1))), 1, api.RegWord), api.OK},
		{"an iterator of references", iterator(proc("p", "r", block(yield(0, 1)), block(ret(-1))), 1, api.RegRef), api.OK},
		{"an iterator of nothing", iterator(proc("p", "w", block(ret(-1))), 1, 0), api.ErrFlow},
		{"an iterator that returns", iterator(proc("p", "w", block(ret(0))), 1, api.RegWord), api.ErrFlow},
		{"another kind yielded", iterator(proc("p", "wr", block(yield(1, 0))), 2, api.RegWord), api.ErrFlow},
		{"an iteration opened twice", proc("p", "i", block(open("a", 0, 1)), block(open("b", 0, 0))), api.ErrFlow},
		{"opened where no way leads", proc("p", "i", block(open("a", 0, 2)), block(open("a", 0, 2)), block(ret(-1))), api.ErrFlow},
	} {
		if e := flow.Check(x.f); e != x.want {
			t.Errorf("H1: %s: %d", x.what, e)
		}
	}
	for _, kinds := range [][]uint8{{0}, {4}, {255}, {1, 2, 3, 0}} {
		f := proc("p", "", block(ret(-1)))
		f.Regs = kinds
		if e := flow.Check(f); e != api.ErrFlow {
			t.Errorf("H1: registers %v: %d", kinds, e)
		}
		f.Regs, f.Slots = nil, kinds
		if e := flow.Check(f); e != api.ErrFlow {
			t.Errorf("H1: slots %v: %d", kinds, e)
		}
	}
	f := proc("p", "", block(ret(-1)))
	if f.Slots = []uint8{1, 2, 3}; flow.Check(f) != api.ErrFlow {
		t.Error("H1: a slot for an iteration")
	}
	for names, want := range map[string]api.Errno{"": api.OK, "a": api.OK, "a b": api.OK, "a a": api.ErrFlow, "b a": api.ErrFlow, "a ab b": api.OK, "a b c d e f": api.OK, "a b c d e f g": api.ErrFlow, "A": api.ErrFlow, "abcdefghijklm": api.ErrFlow, "0 9 a": api.OK, "a_b": api.ErrFlow} {
		f := proc("p", "", block(ret(-1)))
		if f.Signals = strings.Fields(names); flow.Check(f) != want {
			t.Errorf("H1: signals %s: %d", names, flow.Check(f))
		}
	}
	f.Slots, f.Signals = nil, []string{""}
	if e := flow.Check(f); e != api.ErrFlow {
		t.Errorf("H1: an empty signal: %d", e)
	}
}

// H1: how many there may be.
func TestLimits(t *testing.T) {
	for n, want := range map[int]api.Errno{1199: api.OK, 1200: api.OK, 1201: api.ErrFlow} {
		f := proc("p", strings.Repeat("w", n), block(ret(-1), number(n-1, 5), put(n-1)))
		if e := flow.Check(f); e != want {
			t.Errorf("H1: %d registers: %d", n, e)
		}
		f = proc("p", "w", slices.Repeat([]api.Block{block(goTo(n-1), number(0, 1))}, n)...)
		if e := flow.Check(f); e != want {
			t.Errorf("H1: %d blocks: %d", n, e)
		}
	}
	for n, want := range map[int]api.Errno{199: api.OK, 200: api.OK, 201: api.ErrFlow} {
		if e := flow.Check(proc("p", "w", block(ret(-1), slices.Repeat([]api.Ins{number(0, 1)}, n)...))); e != want {
			t.Errorf("H1: %d instructions: %d", n, e)
		}
	}
	for n, want := range map[int]api.Errno{59: api.OK, 60: api.OK, 61: api.ErrFlow} {
		f := with(proc("p", "w", block(ret(-1), api.Ins{Op: api.InsSpill, A: 0, N: n - 1}, api.Ins{Op: api.InsLoad, To: 0, N: n - 1})), 1, 0)
		f.Slots = slices.Repeat([]uint8{1}, n)
		if e := flow.Check(f); e != want {
			t.Errorf("H1: %d slots: %d", n, e)
		}
	}
	var l []api.Flow
	for i := range 61 {
		if at, e := flow.CheckAll(l); at != 0 || e != api.OK {
			t.Errorf("H1: %d flows: %d, %d", i, at, e)
		}
		l = append(l, proc(fmt.Sprintf("p%02d", i), "", block(ret(-1))))
	}
	if at, e := flow.CheckAll(l); at != 0 || e != api.ErrLimit {
		t.Errorf("H1: 61 flows: %d, %d", at, e)
	}
	l[3].Blocks = nil
	if at, e := flow.CheckAll(l); at != 0 || e != api.ErrLimit {
		t.Errorf("H1: 61 flows: %d, %d", at, e)
	}
	if _, e := flow.Run(l, "p00", nil, 5); e != api.ErrArg {
		t.Errorf("H2: 61 flows: %d", e)
	}
}

func phi(to int, args ...int) api.Ins { return api.Ins{Op: api.InsPhi, To: to, Args: args} }

// H1: phis, and where they stand.
func TestPhis(t *testing.T) {
	word := func(to int) api.Ins { return number(to, 0) }
	for _, x := range []struct {
		what string
		f    api.Flow
		want api.Errno
	}{
		{"one block ahead", proc("p", "ww", block(goTo(1), word(0)), block(ret(-1), phi(1, 0))), api.OK},
		{"none written", proc("p", "ww", block(goTo(1)), block(ret(-1), phi(1, 0))), api.ErrRead},
		{"itself", proc("p", "ww", block(goTo(1)), block(ret(-1), phi(1, 1))), api.ErrRead},
		{"in the block 0", proc("p", "ww", block(goTo(0), phi(0, 0))), api.ErrFlow},
		{"in the block 0, without Args", proc("p", "ww", block(ret(-1), phi(0))), api.ErrFlow},
		{"too few", proc("p", "ww", block(goTo(1), word(0)), block(ret(-1), phi(1))), api.ErrFlow},
		{"too many", proc("p", "ww", block(goTo(1), word(0)), block(ret(-1), phi(1, 0, 0))), api.ErrFlow},
		{"two ways from one block", proc("p", "ww", block(branch(0, 1, 1), word(0)), block(ret(-1), phi(1, 0))), api.OK},
		{"behind another instruction", proc("p", "ww", block(goTo(1), word(0)), block(ret(-1), word(0), phi(1, 0))), api.ErrFlow},
		{"behind another phi", proc("p", "ww", block(goTo(1), word(0)), block(ret(-1), phi(0, 0), phi(1, 0), word(0))), api.OK},
		{"another kind", proc("p", "wr", block(goTo(1), word(0)), block(ret(-1), phi(1, 0))), api.ErrFlow},
		{"references", proc("p", "rr", block(goTo(1), api.Ins{Op: api.InsNew}), block(ret(-1), phi(1, 0))), api.OK},
		{"iterations", proc("p", "ii", block(open("it", 0, 1)), block(ret(-1), phi(1, 0))), api.ErrFlow},
		{"a number", proc("p", "ww", block(goTo(1), word(0)), block(ret(-1), api.Ins{Op: api.InsPhi, To: 1, Args: []int{0}, N: 1})), api.ErrFlow},
		{"an A", proc("p", "ww", block(goTo(1), word(0)), block(ret(-1), api.Ins{Op: api.InsPhi, To: 1, Args: []int{0}, A: 1})), api.ErrFlow},
		{"a B", proc("p", "ww", block(goTo(1), word(0)), block(ret(-1), api.Ins{Op: api.InsPhi, To: 1, Args: []int{0}, B: 1})), api.ErrFlow},
		{"no register", proc("p", "ww", block(goTo(1), word(0)), block(ret(-1), phi(1, 2))), api.ErrFlow},
		{"a negative one", proc("p", "ww", block(goTo(1), word(0)), block(ret(-1), phi(1, -1))), api.ErrFlow},
		{"where no way leads", proc("p", "ww", block(ret(-1)), block(ret(-1), phi(1))), api.OK},
		{"where no way leads from", proc("p", "ww", block(goTo(2), word(0)), block(goTo(2)), block(ret(-1), phi(1, 0, 1))), api.OK},
		{"the other one where no way leads from", proc("p", "ww", block(goTo(2), word(0)), block(goTo(2)), block(ret(-1), phi(1, 1, 0))), api.ErrRead},
		{"a loop", proc("p", "ww", block(goTo(1), word(0)), block(branch(1, 1, 2), phi(1, 0, 1)), block(ret(-1))), api.OK},
		{"a loop, the other way round", proc("p", "ww", block(goTo(1), word(0)), block(branch(1, 1, 2), phi(1, 1, 0)), block(ret(-1))), api.ErrRead},
		{"what an end writes", proc("p", "ww", block(try(api.Ins{Op: api.TryAdd, To: 1}, 1), word(0)), block(ret(-1), phi(0, 1))), api.OK},
		{"what an end writes on another way", proc("p", "ww", block(caught(try(api.Ins{Op: api.TryAdd, To: 1}, 2), "others", 1), word(0)), block(ret(-1), phi(0, 1)), block(ret(-1))), api.ErrRead},
		{"what an end writes on one of two ways", proc("p", "ww", block(caught(try(api.Ins{Op: api.TryAdd, To: 1}, 1), "others", 1), word(0)), block(ret(-1), phi(0, 1))), api.ErrRead},
	} {
		if e := flow.Check(x.f); e != x.want {
			t.Errorf("H1: %s: %d", x.what, e)
		}
	}
}

// H1: what is read is written on all ways; slots, too.
func TestWrittenForCertain(t *testing.T) {
	add := api.Ins{Op: api.TryAdd, To: 1}
	spill, load := api.Ins{Op: api.InsSpill}, api.Ins{Op: api.InsLoad, To: 1}
	p := func(blocks ...api.Block) api.Flow {
		f := with(proc("p", "wwri", blocks...), 1, 0)
		f.Slots = []uint8{1}
		return f
	}
	for _, x := range []struct {
		what string
		f    api.Flow
		want api.Errno
	}{
		{"an argument", p(block(ret(-1), put(0))), api.OK},
		{"another register", p(block(ret(-1), put(1))), api.ErrRead},
		{"written behind", p(block(ret(-1), put(1), number(1, 1))), api.ErrRead},
		{"written ahead", p(block(ret(-1), number(1, 1), put(1))), api.OK},
		{"written by what reads it", p(block(ret(-1), api.Ins{Op: api.InsNot, To: 1, A: 1})), api.ErrRead},
		{"A", p(block(ret(-1), api.Ins{Op: api.InsLt, A: 1})), api.ErrRead},
		{"B", p(block(ret(-1), api.Ins{Op: api.InsLt, B: 1})), api.ErrRead},
		{"Args", p(block(ret(-1), api.Ins{Op: api.InsMake, To: 2, Args: []int{0, 1}})), api.ErrRead},
		{"a reference", p(block(ret(-1), api.Ins{Op: api.InsTag, To: 0, A: 2})), api.ErrRead},
		{"an iteration", p(block(ret(-1), api.Ins{Op: api.InsClose, A: 3})), api.ErrRead},
		{"one that is open", p(block(open("it", 3, 1)), block(ret(-1), api.Ins{Op: api.InsClose, A: 3})), api.OK},
		{"one that is not open", p(block(next(3, 1, 0, 0))), api.ErrRead},
		{"in one branch", p(block(branch(0, 1, 2)), block(goTo(2), number(1, 1)), block(ret(-1), put(1))), api.ErrRead},
		{"in both", p(block(branch(0, 1, 2)), block(goTo(3), number(1, 1)), block(goTo(3), number(1, 2)), block(ret(-1), put(1))), api.OK},
		{"in a branch that ends", p(block(branch(0, 1, 2)), block(goTo(3), number(1, 1)), block(ret(-1)), block(ret(-1), put(1))), api.OK},
		{"in a loop", p(block(branch(0, 1, 2)), block(goTo(0), number(1, 1)), block(ret(-1), put(1))), api.ErrRead},
		{"ahead of a loop", p(block(goTo(1), number(1, 1)), block(branch(0, 1, 2), put(1)), block(ret(-1), put(1))), api.OK},
		{"in the round before", p(block(goTo(1)), block(branch(0, 1, 2), put(1), number(1, 1)), block(ret(-1))), api.ErrRead},
		{"in the block 0, which is a loop", p(block(branch(0, 0, 1), put(1), number(1, 1)), block(ret(-1))), api.ErrRead},
		{"where no way leads", p(block(ret(-1)), block(ret(-1), put(1))), api.OK},
		{"from where no way leads", p(block(goTo(2)), block(goTo(2), number(1, 1)), block(ret(-1), put(1))), api.ErrRead},
		{"from where no way leads, without it", p(block(goTo(2), number(1, 1)), block(goTo(2)), block(ret(-1), put(1))), api.OK},
		{"by an end", p(block(try(add, 1)), block(ret(-1), put(1))), api.OK},
		{"by an end, and read by it", p(block(try(api.Ins{Op: api.TryAdd, To: 1, B: 1}, 1)), block(ret(-1))), api.ErrRead},
		{"by an end, with a handler", p(block(caught(try(add, 1), "overflow", 2)), block(ret(-1), put(1)), block(ret(-1))), api.OK},
		{"in a handler", p(block(caught(try(add, 2), "overflow", 1)), block(ret(-1), put(1)), block(ret(-1))), api.ErrRead},
		{"in the other handler", p(block(caught(try(add, 2), "others", 1)), block(ret(-1), put(1)), block(ret(-1))), api.ErrRead},
		{"in a handler that is To", p(block(caught(try(add, 1), "overflow", 1)), block(ret(-1), put(1))), api.ErrRead},
		{"in the other handler that is To", p(block(caught(try(add, 1), "others", 1)), block(ret(-1), put(1))), api.ErrRead},
		{"by a call", p(block(call("q", 1, 1)), block(ret(-1), put(1))), api.OK},
		{"by a call without a result", p(block(call("q", -1, 1)), block(ret(-1), put(1))), api.ErrRead},
		{"an argument of a call", p(block(call("q", 1, 1, 0, 1)), block(ret(-1))), api.ErrRead},
		{"an argument of an iterator", p(block(open("q", 3, 1, 0, 1)), block(ret(-1))), api.ErrRead},
		{"by what is yielded", p(block(open("q", 3, 1)), block(next(3, 1, 2, 3)), block(goTo(1), put(1)), block(ret(-1))), api.OK},
		{"where it has ended", p(block(open("q", 3, 1)), block(next(3, 1, 2, 3)), block(goTo(1)), block(ret(-1), put(1))), api.ErrRead},
		{"where it may have ended", p(block(open("q", 3, 1)), block(next(3, 1, 2, 2)), block(ret(-1), put(1))), api.ErrRead},
		{"a branch", p(block(branch(1, 0, 0))), api.ErrRead},
		{"a result", with(p(block(ret(1))), 1, api.RegWord), api.ErrRead},
		{"what is yielded", iterator(p(block(yield(1, 0))), 1, api.RegWord), api.ErrRead},
		{"a slot", p(block(ret(-1), spill, load)), api.OK},
		{"a slot that is not written", p(block(ret(-1), load)), api.ErrRead},
		{"a slot that is written behind", p(block(ret(-1), load, spill)), api.ErrRead},
		{"a slot in one branch", p(block(branch(0, 1, 2)), block(goTo(2), spill), block(ret(-1), load)), api.ErrRead},
		{"a slot in both", p(block(branch(0, 1, 2)), block(goTo(3), spill), block(goTo(3), spill), block(ret(-1), load, put(1))), api.OK},
		{"on the shorter way", p(block(branch(0, 1, 2)), block(goTo(4), number(1, 1)), block(goTo(3)), block(goTo(4)), block(goTo(5)), block(ret(-1), put(1))), api.ErrRead},
		{"on the longer way", p(block(branch(0, 1, 2)), block(goTo(4)), block(goTo(3)), block(goTo(4), number(1, 1)), block(goTo(5)), block(ret(-1), put(1))), api.ErrRead},
		{"on the shorter way to a loop", p(block(branch(0, 1, 2)), block(goTo(4), number(1, 1)), block(goTo(3)), block(goTo(4)), block(branch(0, 5, 6)), block(goTo(4), put(1)), block(ret(-1))), api.ErrRead},
		{"not as said, and not written", p(block(ret(-1), put(1)), block(ret(0))), api.ErrFlow},
	} {
		if e := flow.Check(x.f); e != x.want {
			t.Errorf("H1: %s: %d", x.what, e)
		}
	}
}

// A register, and a slot, with the highest number is told apart from others.
func TestWrittenAtTheEnd(t *testing.T) {
	f := proc("p", strings.Repeat("w", 1200), block(ret(-1)))
	f.Slots = slices.Repeat([]uint8{1}, 60)
	for _, x := range []struct {
		l    []api.Ins
		want api.Errno
	}{
		{[]api.Ins{number(1199, 1), put(1199)}, api.OK},
		{[]api.Ins{number(1198, 1), put(1199)}, api.ErrRead},
		{[]api.Ins{number(63, 1), put(64)}, api.ErrRead},
		{[]api.Ins{number(0, 1), {Op: api.InsSpill, N: 59}, {Op: api.InsLoad, N: 59}}, api.OK},
		{[]api.Ins{number(0, 1), {Op: api.InsSpill, N: 58}, {Op: api.InsLoad, N: 59}}, api.ErrRead},
		{[]api.Ins{number(0, 1), {Op: api.InsSpill, N: 0}, put(1)}, api.ErrRead},
		{[]api.Ins{number(0, 1), {Op: api.InsSpill, N: 1}, put(1199)}, api.ErrRead},
		{[]api.Ins{number(1199, 1), {Op: api.InsLoad, N: 1}}, api.ErrRead},
	} {
		f.Blocks[0].Ins = x.l
		if e := flow.Check(f); e != x.want {
			t.Errorf("H1: %v: %d", x.l, e)
		}
	}
}

// H1: calls that fit, and such as do not.
func TestCalls(t *testing.T) {
	others := []api.Flow{
		iterator(proc("it", "wr", block(yield(0, 1)), block(ret(-1))), 2, api.RegWord),
		iterator(proc("refs", "wr", block(yield(1, 1)), block(ret(-1))), 2, api.RegRef),
		with(proc("q", "wr", block(ret(-1))), 2, 0),
		with(proc("r", "wr", block(ret(1))), 2, api.RegRef),
		with(proc("s", "w", block(ret(0))), 1, api.RegWord),
	}
	p := func(blocks ...api.Block) api.Flow {
		return with(proc("p", "wwrri", blocks...), 3, 0)
	}
	end := block(ret(-1))
	for _, x := range []struct {
		what string
		f    api.Flow
		want api.Errno
	}{
		{"no result", p(block(call("q", -1, 1, 0, 2)), end), api.OK},
		{"a result that there is not", p(block(call("q", 0, 1, 0, 2)), end), api.ErrCall},
		{"a word", p(block(call("s", 0, 1, 1)), end), api.OK},
		{"a word left out", p(block(call("s", -1, 1, 1)), end), api.OK},
		{"a word to a reference", p(block(call("s", 2, 1, 1)), end), api.ErrCall},
		{"a reference", p(block(call("r", 3, 1, 0, 2)), end), api.OK},
		{"a reference to a word", p(block(call("r", 1, 1, 0, 2)), end), api.ErrCall},
		{"itself", p(block(call("p", -1, 1, 0, 1, 2)), end), api.OK},
		{"too few", p(block(call("q", -1, 1, 0)), end), api.ErrCall},
		{"too many", p(block(call("q", -1, 1, 0, 2, 2)), end), api.ErrCall},
		{"other kinds", p(block(call("q", -1, 1, 2, 0)), end), api.ErrCall},
		{"none", p(block(call("none", -1, 1)), end), api.ErrCall},
		{"an iterator as a procedure", p(block(call("it", 0, 1, 0, 2)), end), api.ErrCall},
		{"a procedure as an iterator", p(block(open("r", 4, 1, 0, 2)), end), api.ErrCall},
		{"an iterator", p(block(open("it", 4, 1, 0, 2)), end), api.OK},
		{"an iterator that there is not", p(block(open("none", 4, 1)), end), api.ErrCall},
		{"too few for an iterator", p(block(open("it", 4, 1, 0)), end), api.ErrCall},
		{"other kinds for an iterator", p(block(open("it", 4, 1, 0, 0)), end), api.ErrCall},
		{"yields words", p(block(open("it", 4, 1, 0, 2)), block(next(4, 0, 1, 1))), api.OK},
		{"yields words to a reference", p(block(open("it", 4, 1, 0, 2)), block(next(4, 2, 1, 1))), api.ErrCall},
		{"yields references", p(block(open("refs", 4, 1, 0, 2)), block(next(4, 2, 1, 1))), api.OK},
		{"yields references to a word", p(block(open("refs", 4, 1, 0, 2)), block(next(4, 0, 1, 1))), api.ErrCall},
		{"resumed in an earlier block than it is opened", p(block(goTo(2)), block(next(4, 2, 1, 3)), block(open("refs", 4, 1, 0, 2)), end), api.OK},
		{"opened in a later block, with a reference for a word", p(block(goTo(2)), block(next(4, 2, 1, 3)), block(open("it", 4, 1, 0, 2)), end), api.ErrCall},
		{"none that is opened in a later block", p(block(goTo(2)), block(next(4, 2, 1, 3)), block(open("none", 4, 1, 0, 2)), end), api.ErrCall},
		{"never opened", p(block(ret(-1)), block(next(4, 0, 1, 1))), api.OK},
		{"where no way leads", p(end, block(call("none", -1, 1))), api.ErrCall},
		{"opened where no way leads", p(end, block(open("it", 4, 1, 0, 2)), block(next(4, 2, 1, 1))), api.ErrCall},
	} {
		want := 0
		if x.want != api.OK {
			want = 1
		}
		if at, e := flow.CheckAll(sorted(append(slices.Clone(others[:1]), append(others[1:], x.f)...))); at != want || e != x.want {
			t.Errorf("H1: %s: %d, %d", x.what, at, e)
		}
	}
}

// H1: the order of errors in a list.
func TestOrderOfErrors(t *testing.T) {
	ok := func(name string) api.Flow { return proc(name, "w", block(ret(-1))) }
	wrong := func(name string) api.Flow { return proc(name, "w", block(ret(0))) }
	unwritten := func(name string) api.Flow { return proc(name, "w", block(ret(-1), put(0))) }
	calls := func(name string) api.Flow { return proc(name, "w", block(call("none", -1, 0))) }
	for _, x := range []struct {
		what string
		l    []api.Flow
		at   int
		e    api.Errno
	}{
		{"none", nil, 0, api.OK},
		{"in order", []api.Flow{ok("a"), ok("b"), ok("ba")}, 0, api.OK},
		{"the same name", []api.Flow{ok("a"), ok("b"), ok("b")}, 2, api.ErrArg},
		{"not in order", []api.Flow{ok("b"), ok("a"), ok("c")}, 1, api.ErrArg},
		{"a flow that is not as said", []api.Flow{ok("a"), wrong("b"), ok("b")}, 1, api.ErrFlow},
		{"not as said, and not in order", []api.Flow{ok("b"), wrong("a")}, 1, api.ErrFlow},
		{"not written, and not in order", []api.Flow{ok("b"), unwritten("a")}, 1, api.ErrRead},
		{"not in order, then not as said", []api.Flow{ok("b"), ok("a"), wrong("c")}, 1, api.ErrArg},
		{"not written, then not as said", []api.Flow{unwritten("a"), wrong("b")}, 0, api.ErrRead},
		{"a call", []api.Flow{ok("a"), calls("b"), calls("c")}, 1, api.ErrCall},
		{"a call, then not as said", []api.Flow{calls("a"), wrong("b")}, 1, api.ErrFlow},
		{"a call, then not in order", []api.Flow{calls("a"), ok("a")}, 1, api.ErrArg},
	} {
		if at, e := flow.CheckAll(x.l); at != x.at || e != x.e {
			t.Errorf("H1: %s: %d, %d", x.what, at, e)
		}
		if _, e := flow.Run(x.l, "a", nil, 5); x.e != api.OK && e != api.ErrArg {
			t.Errorf("H2: %s: %d", x.what, e)
		}
	}
}
