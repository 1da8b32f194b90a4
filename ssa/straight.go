package ssa

import (
	"slices"

	"argus/api"
	"argus/flow"
)

// checkPlain tells whether a flow is valid, and has no phis.
func checkPlain(f api.Flow) api.Errno {
	isPlain, e := flow.Plain(f)
	if e == api.OK && !isPlain {
		return api.ErrPhi
	}
	return e
}

// checkStraight tells whether a flow is valid, has no phis, and is straight.
func checkStraight(f api.Flow) api.Errno {
	if e := checkPlain(f); e != api.OK {
		return e
	}
	for b := range f.Blocks {
		e := &f.Blocks[b].End
		if leadsTwice(e) || slices.Contains(targets(e), 0) {
			return api.ErrWays
		}
	}
	return api.OK
}

// leadsTwice reports whether an end writes a register, and leads to its To in another way, too.
func leadsTwice(e *api.End) bool {
	return flow.WritesEnd(*e) >= 0 && slices.Contains(targets(e)[1:], e.To)
}

// Straight returns a straight flow that does the same as one without phis.
func Straight(f api.Flow) (api.Flow, api.Errno) {
	if e := checkPlain(f); e != api.OK {
		return api.Flow{}, e
	}
	f = renewed(f)
	if len(newGraph(&f).ahead[0]) > 0 {
		addStart(&f)
	}
	for b := range f.Blocks {
		if e := &f.Blocks[b].End; leadsTwice(e) {
			f.Blocks = append(f.Blocks, api.Block{End: goTo(e.To)})
			// The blocks may lie elsewhere now.
			f.Blocks[b].End.To = len(f.Blocks) - 1
		}
	}
	if len(f.Blocks) > api.MaxBlocks {
		return api.Flow{}, api.ErrLimit
	}
	return f, api.OK
}

// addStart puts a block ahead of the first one.
func addStart(f *api.Flow) {
	for b := range f.Blocks {
		for to := range leads(&f.Blocks[b].End) {
			*to++
		}
	}
	f.Blocks = slices.Insert(f.Blocks, 0, api.Block{End: goTo(1)})
}
