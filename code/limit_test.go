package code_test

import (
	"bytes"
	"slices"
	"strings"
	"testing"

	"argus/api"
	"argus/code"
	"argus/flow"
)

// exactly returns a procedure whose code has a number of bytes, from 1000 to some 100000, with a call.
func exactly(t *testing.T, n int) api.Flow {
	t.Helper()
	f := proc("p", "w", block(call("q", 0, 1), slices.Repeat([]api.Ins{number(0, 7)}, 50)...))
	for {
		size := len(plainCode(f).code)
		switch rest := n - size; {
		case rest == 0:
			f.Blocks = slices.Clone(f.Blocks)
			if e := flow.Check(f); e != api.OK {
				t.Fatalf("the test is wrong: %d", e)
			}
			return f
		case rest >= 630:
			f.Blocks = append(f.Blocks, block(goTo(0), slices.Repeat([]api.Ins{number(0, 7)}, 80)...))
		case rest >= 30:
			f.Blocks = append(f.Blocks, block(goTo(0), slices.Repeat([]api.Ins{number(0, 7)}, (rest-20)/7)...))
		default:
			f.Blocks = append(f.Blocks, block(signal(strings.Repeat("s", rest-13))), block(signal("sssssss")))
		}
	}
}

// N1 to N4: code has at most 20000 bytes.
func TestMostBytes(t *testing.T) {
	for n := 19960; n <= 20040; n++ {
		f := exactly(t, n)
		w := plainCode(f)
		if length, e := code.Length(f); e != api.OK || length != n || len(w.code) != n {
			t.Fatalf("N1: %d, %d, not %d", length, e, n)
		}
		o, e := code.Encode(f)
		calls, err := code.Calls(w.code)
		blocks, failed := code.Blocks(w.code)
		_, wrong := code.Front(w.code)
		g, none := code.Decode(api.Object{Name: "p", Code: w.code, Relocs: w.calls})
		h, no := code.Back("p", w.code, []string{"q"})
		if n > api.MaxCode {
			if e != api.ErrLimit || !same(o, api.Object{}) {
				t.Errorf("N1: %d, %d", n, e)
			}
			for _, e := range []api.Errno{err, failed, wrong, none, no} {
				if e != api.ErrCode {
					t.Errorf("N3: %d, %d", n, e)
				}
			}
			if len(calls) > 0 || len(blocks) > 0 || !same(g, api.Flow{}) || !same(h, api.Flow{}) {
				t.Errorf("R2: %d", n)
			}
			continue
		}
		if e != api.OK || !bytes.Equal(o.Code, w.code) || err != api.OK || failed != api.OK || wrong != api.OK || none != api.OK || no != api.OK {
			t.Errorf("N1: %d: %d, %d, %d, %d, %d, %d", n, e, err, failed, wrong, none, no)
		}
		if !same(g, f) || !same(h, f) || len(calls) != 1 || len(blocks) != len(f.Blocks) {
			t.Errorf("N2: %d", n)
		}
	}
}

// N1: the code of the largest flows has a length, though there is no object.
func TestLongestCode(t *testing.T) {
	f := with(proc("p", strings.Repeat("wri", 400)), 2, 0)
	f.Slots = slices.Repeat([]uint8{1, 2}, 30)
	full := slices.Repeat([]api.Ins{{Op: api.InsMake, To: 1, Args: []int{0, 1, 0, 1, 0, 1}}}, 200)
	for i := range 1200 {
		e := caught(call("q", -1, i, 0, 0, 0, 0, 0, 0), "a", 0, "b", 1, "c", 2, "d", 3, "e", 4, "f", 5, "ghijklmnopqr", 6, "others", 7)
		f.Blocks = append(f.Blocks, block(e, full...))
	}
	want := 3 + 2 + 1200 + 1 + 60 + 1 + 2 + 1200*(1+200*17+1+2+13+2+2+1+6*4+15+2)
	if n, e := code.Length(f); e != api.OK || n != want {
		t.Errorf("N1: %d, %d, not %d", n, e, want)
	}
	if o, e := code.Encode(f); e != api.ErrLimit || !same(o, api.Object{}) {
		t.Errorf("N1: %d", e)
	}
	w := plainCode(f)
	if len(w.code) != want {
		t.Errorf("the test is wrong: %d", len(w.code))
	}
	if l, e := code.Calls(w.code); e != api.ErrCode || len(l) > 0 {
		t.Errorf("N3: %d", e)
	}
}

// most returns a flow that has as much as there may be, but for what its code has no room for.
func most() api.Flow {
	f := with(proc(strings.Repeat("n", 120), strings.Repeat("wri", 400)), 2, 0)
	f.Slots = slices.Repeat([]uint8{1, 2}, 30)
	for _, s := range "abcdef" {
		f.Signals = append(f.Signals, strings.Repeat(string(s), 12))
	}
	f.Blocks = slices.Repeat([]api.Block{block(goTo(1199))}, 1200)
	f.Blocks[0].Ins = slices.Repeat([]api.Ins{put(0)}, 200)
	e := call(strings.Repeat("m", 120), 1197, 1198, 0, 1, 0, 1, 0, 1)
	for i := range 7 {
		e = caught(e, strings.Repeat(string(rune('1'+i)), 12), 1199-i)
	}
	f.Blocks[1199] = block(caught(e, "others", 0), api.Ins{Op: api.InsMake, To: 1198, N: 5, Args: []int{0, 1, 0, 1, 0, 1}})
	return f
}

// N1 to N4: the greatest numbers of all.
func TestMostOfAll(t *testing.T) {
	f := most()
	o, e := code.Encode(f)
	w := plainCode(f)
	if e != api.OK || !same(o, api.Object{Name: f.Name, Code: w.code, Relocs: w.calls}) {
		t.Fatalf("N1: %d", e)
	}
	if g, e := code.Decode(o); e != api.OK || !same(g, f) {
		t.Errorf("N2: %d", e)
	}
	if l, e := code.Blocks(o.Code); e != api.OK || len(l) != 1200 || !slices.Equal(l, w.blocks) {
		t.Errorf("N3: %d, %d", len(l), e)
	}
	if g, e := code.Back(f.Name, o.Code, []string{strings.Repeat("m", 120)}); e != api.OK || !same(g, f) {
		t.Errorf("N4: %d", e)
	}
}

// N2, N3: what would be more than there may be of something is no code.
func TestMoreThanMost(t *testing.T) {
	for what, change := range map[string]func(f *api.Flow){
		"registers":    func(f *api.Flow) { f.Regs = append(f.Regs, 1) },
		"slots":        func(f *api.Flow) { f.Slots = append(f.Slots, 1) },
		"signals":      func(f *api.Flow) { f.Signals = append(f.Signals, "g") },
		"letters":      func(f *api.Flow) { f.Signals[5] += "f" },
		"blocks":       func(f *api.Flow) { f.Blocks = append(f.Blocks, block(ret(-1))) },
		"instructions": func(f *api.Flow) { f.Blocks[0].Ins = append(f.Blocks[0].Ins, put(0)) },
		"fields":       func(f *api.Flow) { f.Blocks[1199].Ins[0].Args = slices.Repeat([]int{0}, 7) },
		"arguments":    func(f *api.Flow) { f.Blocks[1199].End.Args = slices.Repeat([]int{0}, 7) },
		"handlers":     func(f *api.Flow) { f.Blocks[1199].End = caught(f.Blocks[1199].End, "8", 0) },
		"blocks to":    func(f *api.Flow) { f.Blocks[7].End.To = 1200 },
		"register":     func(f *api.Flow) { f.Blocks[0].Ins[0].A = 1200 },
		"slot":         func(f *api.Flow) { f.Blocks[1199].Ins[0] = api.Ins{Op: api.InsSpill, N: 60} },
	} {
		f := most()
		change(&f)
		w := plainCode(f)
		if len(w.code) > api.MaxCode {
			t.Fatalf("the test is wrong: %s", what)
		}
		if g, e := code.Decode(api.Object{Name: f.Name, Code: w.code, Relocs: w.calls}); e != api.ErrCode || !same(g, api.Flow{}) {
			t.Errorf("N2: %s: %d", what, e)
		}
		if l, e := code.Blocks(w.code); e != api.ErrCode || len(l) > 0 {
			t.Errorf("N3: %s: %d", what, e)
		}
	}
}

// R1: however many bytes there are, and whatever they say of what follows.
func TestManyBytes(t *testing.T) {
	for _, b := range [][]byte{
		make([]byte, 1<<24), bytes.Repeat([]byte{255}, 20000), make([]byte, 20000),
		bytesOf(0, 0, 0, 0, 0, 0, 0, 255, 255), bytesOf(0, 0, 0, 255, 255), bytesOf(0, 0, 0, 0, 0, 255), bytesOf(0, 0, 0, 0, 0, 0, 255, 255),
		slices.Concat(bytesOf(0, 0, 0, 0, 0, 0, 0, 255, 255), bytes.Repeat(bytesOf(0, 3, 255, 255), 4900)),
		slices.Concat(bytesOf(0, 0, 0, 0, 0, 0, 0, 0, 1), bytes.Repeat(bytesOf(255), 19000)),
	} {
		if _, e := code.Front(b); e != api.ErrCode {
			t.Errorf("N3: %d bytes: %d", len(b), e)
		}
		if _, e := code.Decode(api.Object{Name: "p", Code: b}); e != api.ErrCode {
			t.Errorf("N2: %d bytes: %d", len(b), e)
		}
	}
	many := api.Object{Name: "main", Code: codeOfCaller(), Relocs: make([]api.Reloc, 1<<20)}
	if _, e := code.Decode(many); e != api.ErrCode {
		t.Errorf("N2: %d", e)
	}
}
