package flow

import (
	"slices"

	"argus/api"
)

// firstWrongCall returns the index of the first flow with a call that does not fit, or -1. The flows are valid.
func firstWrongCall(l []api.Flow) int {
	byName := map[string]*api.Flow{}
	for i := range l {
		byName[l[i].Name] = &l[i]
	}
	at := -1
search:
	for i := range l {
		opened := openedBy(&l[i])
		for j := range l[i].Blocks {
			if !fits(&l[i], &l[i].Blocks[j].End, byName, opened) {
				at = i
				break search
			}
		}
	}
	return at
}

// openedBy returns the names of the iterators that are opened, by the registers of their iterations.
func openedBy(f *api.Flow) map[int]string {
	opened := map[int]string{}
	for i := range f.Blocks {
		if e := &f.Blocks[i].End; e.Kind == api.EndOpen {
			opened[e.A] = e.Name
		}
	}
	return opened
}

// fits reports whether an end calls what there is, as it is.
func fits(f *api.Flow, e *api.End, byName map[string]*api.Flow, opened map[int]string) bool {
	switch e.Kind {
	case api.EndCall:
		g := byName[e.Name]
		return g != nil && !g.Iter && takes(g, f, e.Args) && (e.A < 0 || f.Regs[e.A] == g.Result)
	case api.EndOpen:
		g := byName[e.Name]
		return g != nil && g.Iter && takes(g, f, e.Args)
	case api.EndNext:
		name, isOpened := opened[e.A]
		// If there is no such flow, that is said of the EndOpen.
		g := byName[name]
		return !isOpened || g == nil || f.Regs[e.B] == g.Result
	}
	return true
}

// takes reports whether the arguments of a flow have the kinds of some registers of another one.
func takes(g, f *api.Flow, args []int) bool {
	kinds := make([]uint8, len(args))
	for i, reg := range args {
		kinds[i] = f.Regs[reg]
	}
	return slices.Equal(g.Regs[:g.Args], kinds)
}
