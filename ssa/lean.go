package ssa

import (
	"slices"

	"argus/api"
)

// leaner leaves phis out of a flow, whose memory is its own.
type leaner struct {
	*api.Flow
	stands map[int]int // what stands in the place of registers, which may have given way to others later
}

// only returns the one register that is an Arg of a phi, but for its own To, or -1.
func only(phi *api.Ins) int {
	reg := -1
	for _, arg := range phi.Args {
		switch {
		case arg == phi.To || arg == reg:
		case reg < 0:
			reg = arg
		default:
			return -1
		}
	}
	return reg
}

// leaveOut leaves out the first phi that is not needed, and reports whether there was one.
func (l *leaner) leaveOut() bool {
	block, place, reg := 0, 0, -1
search:
	for b := range l.Blocks {
		for i, phi := range phis(&l.Blocks[b]) {
			if reg = only(phi); reg >= 0 {
				block, place = b, i
				break search
			}
		}
	}
	if reg < 0 {
		return false
	}
	b := &l.Blocks[block]
	gone := b.Ins[place].To
	b.Ins = slices.Delete(b.Ins, place, place+1)
	l.replace(gone, reg)
	return true
}

// replace lets a register stand for another one in the Args of all phis; other instructions follow when all is done.
func (l *leaner) replace(gone, reg int) {
	l.stands[gone] = reg
	for b := range l.Blocks {
		for _, phi := range phis(&l.Blocks[b]) {
			for i, arg := range phi.Args {
				if arg == gone {
					phi.Args[i] = reg
				}
			}
		}
	}
}

// standing returns the register that stands in the place of one.
func (l *leaner) standing(reg int) int {
	for {
		other, isGone := l.stands[reg]
		if !isGone {
			return reg
		}
		reg = other
	}
}

// Lean returns the flow in SSA form without the phis that are not needed.
func Lean(f api.Flow) (api.Flow, api.Errno) {
	if e := Check(f); e != api.OK {
		return api.Flow{}, e
	}
	f = renewed(f)
	l := &leaner{Flow: &f, stands: map[int]int{}}
	for l.leaveOut() {
	}
	return turnFlow(f, l.standing), api.OK
}
