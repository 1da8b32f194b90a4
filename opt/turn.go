package opt

import (
	"slices"

	"argus/api"
	"argus/flow"
)

// turnReads returns an instruction, in new memory, that reads other registers; Args of phis are turned, too.
func turnReads(x api.Ins, turn func(reg int) int) api.Ins {
	// Without Args it reads A alone, or A and B, or none of them.
	n := len(flow.Reads(api.Ins{Op: x.Op}))
	if n > 0 {
		x.A = turn(x.A)
	}
	if n > 1 {
		x.B = turn(x.B)
	}
	x.Args = turnAll(x.Args, turn)
	return x
}

func turnAll(l []int, turn func(reg int) int) []int {
	l = slices.Clone(l)
	for i, reg := range l {
		l[i] = turn(reg)
	}
	return l
}

// turnEnd returns an end, in new memory, that reads other registers.
func turnEnd(x api.End, turn func(reg int) int) api.End {
	switch x.Kind {
	case api.EndIf, api.EndReturn, api.EndNext, api.EndYield:
		// A routine without a result returns -1.
		if x.A >= 0 {
			x.A = turn(x.A)
		}
	}
	x.Ins = turnReads(x.Ins, turn)
	x.Args = turnAll(x.Args, turn)
	x.Whens = slices.Clone(x.Whens)
	return x
}

// turnFlow returns a flow, in new memory, in which other registers are read.
func turnFlow(f api.Flow, turn func(reg int) int) api.Flow {
	f.Regs, f.Slots, f.Signals = slices.Clone(f.Regs), slices.Clone(f.Slots), slices.Clone(f.Signals)
	f.Blocks = slices.Clone(f.Blocks)
	for i := range f.Blocks {
		b := &f.Blocks[i]
		b.Ins = slices.Clone(b.Ins)
		for j, x := range b.Ins {
			b.Ins[j] = turnReads(x, turn)
		}
		b.End = turnEnd(b.End, turn)
	}
	return f
}

// renewed returns a flow in new memory.
func renewed(f api.Flow) api.Flow {
	stay := func(reg int) int { return reg }
	return turnFlow(f, stay)
}
