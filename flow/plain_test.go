package flow_test

import (
	"fmt"
	"slices"
	"strconv"
	"strings"

	"argus/api"
)

// A second way to tell what is valid: with the tables of the chapter, and by looking for ways on which nothing is written.

// plainIns says of each Op what its fields To, A, B, N and Args are: 0, w, r, v, i; t and a are of the kind of To and A; m is an int, f a number of a field, b is 0 or 1, s a slot of the kind of To, S one of that of A; 1, 6 and p are how many Args there are.
var plainIns = map[uint8]string{
	1: "w00m0", 2: "vt000", 3: "www00", 4: "www00", 5: "wva00", 6: "www00", 7: "www00", 8: "ww000", 9: "r00b0", 10: "r00f6",
	11: "vr0f0", 12: "0rvf0", 13: "wr000", 14: "wr000", 15: "0w000", 16: "0i000", 17: "v00s0", 18: "0v0S0", 19: "v000p",
	30: "www00", 31: "www00", 32: "www00", 33: "www00", 34: "www00", 35: "0rv00", 36: "vr000", 37: "vrw00", 38: "0rw01",
}

// plainEnds says of each Kind what its fields A, B, To, Else, Name, Ins, Args, Whens are; R is the result that is returned, Y the one that is yielded, o a register or -1.
var plainEnds = map[uint8]string{
	1: "00b00000", 2: "w0bb0000", 3: "R0000000", 4: "0000s000", 5: "00b00t0h", 6: "o0b0n0ah", 7: "i0b0n0a0", 8: "ivbb000h", 9: "Y0b00000",
}

// plainReg reports whether a register is as a letter says.
func plainReg(f *api.Flow, c byte, reg int, x *api.Ins) bool {
	if c == '0' {
		return reg == 0
	}
	if c == 'R' && (f.Iter || f.Result == 0) || c == 'o' && reg == -1 {
		return reg == -1
	}
	if reg < 0 || len(f.Regs) <= reg {
		return false
	}
	k := f.Regs[reg]
	switch c {
	case 'v', 'o':
		return k != 3
	case 't':
		return k == f.Regs[x.To]
	case 'a':
		return k == f.Regs[x.A]
	case 'R':
		return k == f.Result
	case 'Y':
		return f.Iter && k == f.Result
	}
	return int(k) == 1+strings.IndexByte("wri", c)
}

func plainNumber(f *api.Flow, c byte, x *api.Ins) bool {
	high := map[byte]int{'0': 0, 'b': 1, 'f': 5, 'm': 1000000000, 's': len(f.Slots) - 1, 'S': len(f.Slots) - 1}[c]
	low := 0
	if c == 'm' {
		low = -high
	}
	if x.N < low || high < x.N {
		return false
	}
	return c != 's' && c != 'S' || f.Slots[x.N] == f.Regs[map[byte]int{'s': x.To, 'S': x.A}[c]]
}

func plainInstruction(f *api.Flow, x *api.Ins, ahead int) bool {
	s := plainIns[x.Op]
	if s == "" || !plainReg(f, s[0], x.To, x) || !plainReg(f, s[1], x.A, x) || !plainReg(f, s[2], x.B, x) || !plainNumber(f, s[3], x) {
		return false
	}
	n := len(x.Args)
	kind := byte('v')
	if s[4] == 'p' {
		kind = 't'
	}
	for _, reg := range x.Args {
		if !plainReg(f, kind, reg, x) {
			return false
		}
	}
	return s[4] == '0' && n == 0 || s[4] == '1' && n == 1 || s[4] == '6' && 1 <= n && n <= 6 || s[4] == 'p' && n == ahead
}

func isWord(s string, most int, letters string) bool {
	return s != "" && len(s) <= most && strings.Trim(s, letters) == ""
}

const small = "abcdefghijklmnopqrstuvwxyz0123456789"

func plainName(s string) bool {
	isHidden := func(c byte) bool { return c <= ' ' || '~' < c }
	return s != "" && len(s) <= 120 && !slices.ContainsFunc([]byte(s), isHidden)
}

func plainEnd(f *api.Flow, e *api.End) bool {
	s := plainEnds[e.Kind]
	if s == "" || !plainReg(f, s[0], e.A, nil) || !plainReg(f, s[1], e.B, nil) {
		return false
	}
	for i, to := range []int{e.To, e.Else} {
		if to < 0 || to >= len(f.Blocks) || s[2+i] == '0' && to != 0 {
			return false
		}
	}
	isNamed := map[byte]bool{'0': e.Name == "", 's': isWord(e.Name, 12, small), 'n': plainName(e.Name)}[s[4]]
	isTried := s[5] == 't' && e.Ins.Op >= 30 && plainInstruction(f, &e.Ins, 0) || s[5] == '0' && same(e.Ins, api.Ins{})
	if !isNamed || !isTried || len(e.Args) > 6 || s[6] == '0' && len(e.Args) > 0 {
		return false
	}
	for _, reg := range e.Args {
		if !plainReg(f, 'v', reg, nil) {
			return false
		}
	}
	if s[7] == '0' {
		return len(e.Whens) == 0 && e.Others == -1
	}
	names := map[string]bool{}
	for _, w := range e.Whens {
		if names[w.Name] || !isWord(w.Name, 12, small) || w.To < 0 || w.To >= len(f.Blocks) {
			return false
		}
		names[w.Name] = true
	}
	return len(names) <= 7 && -1 <= e.Others && e.Others < len(f.Blocks)
}

// plainTargets returns the blocks behind an end, as often as they are named, To first.
func plainTargets(e *api.End) []int {
	s := plainEnds[e.Kind]
	var l []int
	if s[2] == 'b' {
		l = append(l, e.To)
	}
	if s[3] == 'b' {
		l = append(l, e.Else)
	}
	for _, w := range e.Whens {
		l = append(l, w.To)
	}
	if e.Others >= 0 {
		l = append(l, e.Others)
	}
	return l
}

// plainAhead returns the blocks ahead of a block.
func plainAhead(f *api.Flow, block int) []int {
	var l []int
	for i := range f.Blocks {
		if slices.Contains(plainTargets(&f.Blocks[i].End), block) {
			l = append(l, i)
		}
	}
	return l
}

func isBeyond[T any](l []T, most int, isRight func(T) bool) bool {
	return len(l) > most || slices.ContainsFunc(l, func(x T) bool { return !isRight(x) })
}

func plainIsAsSaid(f *api.Flow) bool {
	isKind := func(most uint8) func(k uint8) bool { return func(k uint8) bool { return 1 <= k && k <= most } }
	if !plainName(f.Name) || f.Args < 0 || f.Args > 6 || f.Args > len(f.Regs) || isBeyond(f.Regs, 1200, isKind(3)) || isBeyond(f.Regs[:f.Args], 6, isKind(2)) || isBeyond(f.Slots, 60, isKind(2)) {
		return false
	}
	isSignal := func(s string) bool { return isWord(s, 12, small) }
	isSorted := slices.IsSorted(f.Signals) && len(slices.Compact(slices.Clone(f.Signals))) == len(f.Signals)
	if isBeyond(f.Signals, 6, isSignal) || !isSorted || f.Result > 3 || f.Iter && f.Result == 0 || len(f.Blocks) == 0 {
		return false
	}
	if isBeyond(f.Blocks, 1200, func(b api.Block) bool { return len(b.Ins) <= 200 && plainEnd(f, &b.End) }) {
		return false
	}
	opened := map[int]int{}
	for i, b := range f.Blocks {
		others := false
		for _, x := range b.Ins {
			isPhi := x.Op == 19
			if x.Op >= 30 || isPhi && (others || i == 0) || !plainInstruction(f, &x, len(plainAhead(f, i))) {
				return false
			}
			others = others || !isPhi
		}
		if b.End.Kind == 7 {
			opened[b.End.A]++
		}
	}
	for _, n := range opened {
		if n > 1 {
			return false
		}
	}
	return true
}

// plainReads returns the registers that an instruction reads.
func plainReads(x *api.Ins) []int {
	s, l := plainIns[x.Op], []int(nil)
	if s == "" {
		return nil
	}
	for i, reg := range []int{x.A, x.B} {
		if s[1+i] != '0' {
			l = append(l, reg)
		}
	}
	if s[4] == '1' || s[4] == '6' {
		l = append(l, x.Args...)
	}
	return l
}

func plainWrites(x *api.Ins) int {
	if s := plainIns[x.Op]; s == "" || s[0] == '0' {
		return -1
	}
	return x.To
}

func plainReadsEnd(e *api.End) []int {
	switch e.Kind {
	case api.EndTry:
		return plainReads(&e.Ins)
	case api.EndIf, api.EndNext, api.EndYield:
		return []int{e.A}
	case api.EndReturn:
		if e.A != -1 {
			return []int{e.A}
		}
	case api.EndCall, api.EndOpen:
		return e.Args
	}
	return nil
}

func plainWritesEnd(e *api.End) int {
	switch e.Kind {
	case api.EndTry:
		return plainWrites(&e.Ins)
	case api.EndCall, api.EndOpen:
		return e.A
	case api.EndNext:
		return e.B
	}
	return -1
}

// plainMissing reports whether there is a way from the beginning to a place that reads a register, or a slot, on which it is not written.
func plainMissing(f *api.Flow, reg, slot int) bool {
	seen := make([]bool, len(f.Blocks))
	waiting := []int{0}
search:
	for len(waiting) > 0 {
		b := waiting[0]
		waiting = waiting[1:]
		if seen[b] {
			continue
		}
		seen[b] = true
		for _, x := range f.Blocks[b].Ins {
			switch {
			case slices.Contains(plainReads(&x), reg), x.Op == api.InsLoad && x.N == slot:
				return true
			case plainWrites(&x) == reg && reg >= 0, x.Op == api.InsSpill && x.N == slot:
				continue search
			}
		}
		e := &f.Blocks[b].End
		if slices.Contains(plainReadsEnd(e), reg) {
			return true
		}
		for i, to := range plainTargets(e) {
			isAlone := len(plainTargets(e)) == 1 || !slices.Contains(plainTargets(e)[1:], to)
			if i == 0 && isAlone && plainWritesEnd(e) == reg && reg >= 0 {
				continue
			}
			for _, x := range f.Blocks[to].Ins {
				if x.Op == api.InsPhi && x.Args[slices.Index(plainAhead(f, to), b)] == reg {
					return true
				}
			}
			waiting = append(waiting, to)
		}
	}
	return false
}

func plainCheck(f *api.Flow) api.Errno {
	if !plainIsAsSaid(f) {
		return api.ErrFlow
	}
	for reg := f.Args; reg < len(f.Regs); reg++ {
		if plainMissing(f, reg, -1) {
			return api.ErrRead
		}
	}
	for slot := range f.Slots {
		if plainMissing(f, -1, slot) {
			return api.ErrRead
		}
	}
	return api.OK
}

// plainCalls reports whether all calls of a flow fit.
func plainCalls(f *api.Flow, l []api.Flow) bool {
	find := func(name string, isIter bool) *api.Flow {
		for i := range l {
			if l[i].Name == name && l[i].Iter == isIter {
				return &l[i]
			}
		}
		return nil
	}
	for _, b := range f.Blocks {
		e := b.End
		if e.Kind == api.EndNext {
			for _, c := range f.Blocks {
				if c.End.Kind != api.EndOpen || c.End.A != e.A {
					continue
				}
				if g := find(c.End.Name, true); g != nil && f.Regs[e.B] != g.Result {
					return false
				}
			}
		}
		if e.Kind != api.EndCall && e.Kind != api.EndOpen {
			continue
		}
		g := find(e.Name, e.Kind == api.EndOpen)
		if g == nil || g.Args != len(e.Args) || e.Kind == api.EndCall && e.A >= 0 && f.Regs[e.A] != g.Result {
			return false
		}
		for i, reg := range e.Args {
			if f.Regs[reg] != g.Regs[i] {
				return false
			}
		}
	}
	return true
}

func plainCheckAll(l []api.Flow) (int, api.Errno) {
	if len(l) > 60 {
		return 0, api.ErrLimit
	}
	for i := range l {
		if e := plainCheck(&l[i]); e != api.OK {
			return i, e
		}
		if i > 0 && l[i].Name <= l[i-1].Name {
			return i, api.ErrArg
		}
	}
	for i := range l {
		if !plainCalls(&l[i], l) {
			return i, api.ErrCall
		}
	}
	return 0, api.OK
}

// plainWrite returns the text of a valid flow.
func plainWrite(f *api.Flow) string {
	word := map[bool]string{false: "proc", true: "iter"}[f.Iter]
	bare := func(x any) string { return strings.Trim(fmt.Sprint(x), "[]") }
	join := func(l ...any) string {
		var words []string
		for _, x := range l {
			words = append(words, strings.Fields(bare(x))...)
		}
		return strings.Join(words, " ") + "\n"
	}
	s := "flow " + f.Name + " " + word + " " + strconv.Itoa(f.Args) + " " + strconv.Itoa(int(f.Result)) + "\n"
	s += join("regs", f.Regs) + join("slots", f.Slots) + join("signals", f.Signals)
	for _, b := range f.Blocks {
		s += "block\n"
		for _, x := range b.Ins {
			s += join("ins", x.Op, x.To, x.A, x.B, x.N, x.Args)
		}
		e := b.End
		s += join("end", e.Kind, e.A, e.B, e.To, e.Else, e.Others, e.Args)
		if e.Name != "" {
			s += "name " + e.Name + "\n"
		}
		if e.Kind == api.EndTry {
			s += join("try", e.Ins.Op, e.Ins.To, e.Ins.A, e.Ins.B, e.Ins.N, e.Ins.Args)
		}
		for _, w := range e.Whens {
			s += join("when", w.Name, w.To)
		}
	}
	return s
}
