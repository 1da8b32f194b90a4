package flow

import (
	"slices"

	"argus/api"
)

const (
	maxRoutine = 120 // bytes of a name
	maxWhens   = 7
)

// isAsSaid reports whether a flow is as said, whatever it reads.
func isAsSaid(f *api.Flow) bool {
	if !isRoutineName(f.Name) || !areKindsAsSaid(f) || !areSignalsAsSaid(f.Signals) {
		return false
	}
	if len(f.Blocks) < 1 || len(f.Blocks) > api.MaxBlocks {
		return false
	}
	for i := range f.Blocks {
		if len(f.Blocks[i].Ins) > api.MaxIns || !isEnd(f, &f.Blocks[i].End) {
			return false
		}
	}
	// The ends are known to lead to blocks now.
	ahead := aheads(f)
	for i := range f.Blocks {
		if !areInstructions(f, f.Blocks[i].Ins, i == 0, len(ahead[i])) {
			return false
		}
	}
	return isOpenedOnce(f)
}

func isRoutineName(s string) bool {
	for i := range len(s) {
		if s[i] < 33 || s[i] > 126 {
			return false
		}
	}
	return 1 <= len(s) && len(s) <= maxRoutine
}

func isSignalName(s string) bool {
	for i := range len(s) {
		isLetter, isDigit := 'a' <= s[i] && s[i] <= 'z', '0' <= s[i] && s[i] <= '9'
		if !isLetter && !isDigit {
			return false
		}
	}
	return 1 <= len(s) && len(s) <= api.MaxName
}

// areKindsAsSaid looks at the registers, the arguments, the result and the slots.
func areKindsAsSaid(f *api.Flow) bool {
	if len(f.Regs) > api.MaxRegs || len(f.Slots) > api.MaxSlots || !isIn(f.Args, 0, min(api.MaxArgs, len(f.Regs))) {
		return false
	}
	isNoReg := func(k uint8) bool { return k < api.RegWord || k > api.RegIter }
	isNoSlot := func(k uint8) bool { return k != api.RegWord && k != api.RegRef }
	if slices.ContainsFunc(f.Regs, isNoReg) || slices.ContainsFunc(f.Regs[:f.Args], isNoSlot) || slices.ContainsFunc(f.Slots, isNoSlot) {
		return false
	}
	return f.Result == 0 && !f.Iter || !isNoReg(f.Result)
}

func areSignalsAsSaid(l []string) bool {
	for i, s := range l {
		if !isSignalName(s) || i > 0 && l[i-1] >= s {
			return false
		}
	}
	return len(l) <= api.MaxSignals
}

func isIn(n, low, high int) bool { return low <= n && n <= high }

// areInstructions looks at the instructions of a block, with a number of blocks ahead.
func areInstructions(f *api.Flow, l []api.Ins, isFirst bool, ahead int) bool {
	for i := range l {
		if isTry(l[i].Op) || !isInstruction(f, &l[i], ahead) {
			return false
		}
		if l[i].Op == api.InsPhi && (isFirst || i > 0 && l[i-1].Op != api.InsPhi) {
			return false
		}
	}
	return true
}

func isInstruction(f *api.Flow, x *api.Ins, ahead int) bool {
	s := shapeOf(x.Op)
	return s != shape{} && isReg(f, s.to, x.To, x) && isReg(f, s.a, x.A, x) && isReg(f, s.b, x.B, x) && isNumber(f, s.n, x) && areArgs(f, s.args, x, ahead)
}

// isReg reports whether a field is a register as it is to be. (To and A are looked at ahead of what is like them.)
func isReg(f *api.Flow, want field, reg int, x *api.Ins) bool {
	if want == noReg {
		return reg == 0
	}
	if reg < 0 || reg >= len(f.Regs) {
		return false
	}
	switch kind := f.Regs[reg]; want {
	case valueReg:
		return kind != api.RegIter
	case likeTo:
		return kind == f.Regs[x.To]
	case likeA:
		return kind == f.Regs[x.A]
	default:
		return kind == uint8(want)
	}
}

func isNumber(f *api.Flow, want number, x *api.Ins) bool {
	switch want {
	case anyInt:
		return isIn(x.N, -api.MaxInt, api.MaxInt)
	case flag:
		return isIn(x.N, 0, 1)
	case index:
		return isIn(x.N, 0, api.MaxFields-1)
	case slotForTo:
		return isIn(x.N, 0, len(f.Slots)-1) && f.Slots[x.N] == f.Regs[x.To]
	case slotForA:
		return isIn(x.N, 0, len(f.Slots)-1) && f.Slots[x.N] == f.Regs[x.A]
	}
	return x.N == 0
}

func areArgs(f *api.Flow, want list, x *api.Ins, ahead int) bool {
	low, high, kind := 0, 0, valueReg
	switch want {
	case oneArg:
		low, high = 1, 1
	case fields:
		low, high = 1, api.MaxFields
	case phiArgs:
		low, high, kind = ahead, ahead, likeTo
	}
	isNone := func(reg int) bool { return !isReg(f, kind, reg, x) }
	return isIn(len(x.Args), low, high) && !slices.ContainsFunc(x.Args, isNone)
}

func isEnd(f *api.Flow, e *api.End) bool {
	s := endShapeOf(e.Kind)
	return s != endShape{} && isEndReg(f, s.a, e.A) && isEndReg(f, s.b, e.B) && isBlock(f, s.to, e.To) && isBlock(f, s.orElse, e.Else) &&
		isEndName(s, e.Name) && areCallArgs(f, s, e.Args) && isTried(f, s, &e.Ins) && areHandlers(f, s, e)
}

func isEndReg(f *api.Flow, want field, reg int) bool {
	isOne := 0 <= reg && reg < len(f.Regs)
	switch want {
	case returned:
		if f.Iter || f.Result == 0 {
			return reg == -1
		}
		return isOne && f.Regs[reg] == f.Result
	case yielded:
		return f.Iter && isOne && f.Regs[reg] == f.Result
	case maybeReg:
		return reg == -1 || isReg(f, valueReg, reg, nil)
	}
	return isReg(f, want, reg, nil)
}

// isBlock reports whether there is a block with a number, or the number is 0 where none is to be.
func isBlock(f *api.Flow, isThere bool, to int) bool {
	return to == 0 || isThere && isIn(to, 0, len(f.Blocks)-1)
}

func isEndName(s endShape, name string) bool {
	switch {
	case s.signals:
		return isSignalName(name)
	case s.isACall:
		return isRoutineName(name)
	}
	return name == ""
}

func areCallArgs(f *api.Flow, s endShape, l []int) bool {
	if !s.isACall {
		return len(l) == 0
	}
	isNone := func(reg int) bool { return !isReg(f, valueReg, reg, nil) }
	return len(l) <= api.MaxArgs && !slices.ContainsFunc(l, isNone)
}

func isTried(f *api.Flow, s endShape, x *api.Ins) bool {
	if !s.tries {
		return x.Op == 0 && x.To == 0 && x.A == 0 && x.B == 0 && x.N == 0 && len(x.Args) == 0
	}
	return isTry(x.Op) && isInstruction(f, x, 0)
}

func areHandlers(f *api.Flow, s endShape, e *api.End) bool {
	if !s.handles {
		return len(e.Whens) == 0 && e.Others == -1
	}
	if len(e.Whens) > maxWhens || !isIn(e.Others, -1, len(f.Blocks)-1) {
		return false
	}
	for i, w := range e.Whens {
		isTheSame := func(other api.When) bool { return other.Name == w.Name }
		if !isSignalName(w.Name) || !isBlock(f, true, w.To) || slices.ContainsFunc(e.Whens[:i], isTheSame) {
			return false
		}
	}
	return true
}

// isOpenedOnce reports whether no register is the A of more than one EndOpen.
func isOpenedOnce(f *api.Flow) bool {
	isOpened := make([]bool, len(f.Regs))
	for i := range f.Blocks {
		e := &f.Blocks[i].End
		if e.Kind != api.EndOpen {
			continue
		}
		if isOpened[e.A] {
			return false
		}
		isOpened[e.A] = true
	}
	return true
}
