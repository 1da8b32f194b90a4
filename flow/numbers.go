package flow

import (
	"slices"

	"argus/api"
)

// Renamed returns the flow in which registers have other numbers.
func Renamed(f api.Flow, to []int) (api.Flow, api.Errno) {
	if e := Check(f); e != api.OK {
		return api.Flow{}, e
	}
	if !areNumbers(to, len(f.Regs), f.Args) {
		return api.Flow{}, api.ErrArg
	}
	out := copied(f)
	for i, kind := range f.Regs {
		out.Regs[to[i]] = kind
	}
	for i := range out.Blocks {
		b := &out.Blocks[i]
		for j := range b.Ins {
			renameIns(&b.Ins[j], to)
		}
		renameEnd(&b.End, to)
	}
	return out, api.OK
}

// areNumbers reports whether a list has all numbers from 0 to less than n, each once, and the first ones at their places.
func areNumbers(to []int, n, first int) bool {
	if len(to) != n {
		return false
	}
	isThere := make([]bool, n)
	for i, x := range to {
		if !isIn(x, 0, n-1) || isThere[x] || i < first && x != i {
			return false
		}
		isThere[x] = true
	}
	return true
}

// renameIns gives the registers of an instruction other numbers.
func renameIns(x *api.Ins, to []int) {
	s := shapeOf(x.Op)
	rename(&x.To, s.to, to)
	rename(&x.A, s.a, to)
	rename(&x.B, s.b, to)
	renameAll(x.Args, to)
}

func renameEnd(x *api.End, to []int) {
	s := endShapeOf(x.Kind)
	rename(&x.A, s.a, to)
	rename(&x.B, s.b, to)
	renameIns(&x.Ins, to)
	renameAll(x.Args, to)
}

// rename gives a field another number, if it has one of a register.
func rename(reg *int, is field, to []int) {
	if is != noReg && *reg >= 0 {
		*reg = to[*reg]
	}
}

func renameAll(l []int, to []int) {
	for i := range l {
		l[i] = to[l[i]]
	}
}

// Moved returns the flow in which blocks have other numbers.
func Moved(f api.Flow, to []int) (api.Flow, api.Errno) {
	if e := Check(f); e != api.OK {
		return api.Flow{}, e
	}
	if !areNumbers(to, len(f.Blocks), 1) {
		return api.Flow{}, api.ErrArg
	}
	from, out := copied(f), copied(f)
	ahead := aheads(&f)
	for i, b := range from.Blocks {
		moveEnd(&b.End, to)
		places := newPlaces(ahead[i], to)
		for j := range phis(&b) {
			for k, arg := range f.Blocks[i].Ins[j].Args {
				b.Ins[j].Args[places[k]] = arg
			}
		}
		out.Blocks[to[i]] = b
	}
	return out, api.OK
}

// newPlaces returns, for each of the blocks ahead, its place among them when they have other numbers.
func newPlaces(ahead, to []int) []int {
	moved := make([]int, len(ahead))
	for i, block := range ahead {
		moved[i] = to[block]
	}
	ascending := slices.Sorted(slices.Values(moved))
	for i, block := range moved {
		moved[i], _ = slices.BinarySearch(ascending, block)
	}
	return moved
}

// moveEnd gives the blocks to which an end leads other numbers.
func moveEnd(x *api.End, to []int) {
	s := endShapeOf(x.Kind)
	if s.to {
		x.To = to[x.To]
	}
	if s.orElse {
		x.Else = to[x.Else]
	}
	for i, w := range x.Whens {
		x.Whens[i].To = to[w.To]
	}
	if x.Others >= 0 {
		x.Others = to[x.Others]
	}
}

// copied returns a flow in new memory.
func copied(f api.Flow) api.Flow {
	f.Regs, f.Slots, f.Signals = slices.Clone(f.Regs), slices.Clone(f.Slots), slices.Clone(f.Signals)
	f.Blocks = slices.Clone(f.Blocks)
	for i := range f.Blocks {
		b := &f.Blocks[i]
		b.Ins = slices.Clone(b.Ins)
		for j := range b.Ins {
			b.Ins[j].Args = slices.Clone(b.Ins[j].Args)
		}
		b.End.Ins.Args, b.End.Args, b.End.Whens = slices.Clone(b.End.Ins.Args), slices.Clone(b.End.Args), slices.Clone(b.End.Whens)
	}
	return f
}
