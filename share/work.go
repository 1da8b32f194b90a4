package share

import (
	"cmp"
	"slices"

	"argus/api"
	"argus/flow"
)

// flows is a valid list of flows.
type flows []api.Flow

// find returns the index of the flow with a Name, and whether there is one.
func (l flows) find(name string) (int, bool) {
	byName := func(f api.Flow, name string) int { return cmp.Compare(f.Name, name) }
	return slices.BinarySearchFunc(l, name, byName)
}

// has reports whether an index is one of a flow.
func (l flows) has(i int) bool { return 0 <= i && i < len(l) }

// work is a list at work.
type work struct {
	flows
	shapes []int   // the first flow that has the shape of each one
	calls  [][]int // what each flow calls
}

func newWork(l []api.Flow) (*work, api.Errno) {
	if _, e := flow.CheckAll(l); e != api.OK {
		return nil, e
	}
	w := &work{flows: l, shapes: make([]int, len(l)), calls: make([][]int, len(l))}
	firsts := map[string]int{}
	for i := range l {
		shape := shapeOf(l[i])
		first, isThere := firsts[shape]
		if !isThere {
			first = i
			firsts[shape] = i
		}
		w.shapes[i] = first
		for _, name := range callsOf(&l[i]) {
			called, _ := w.find(name)
			w.calls[i] = append(w.calls[i], called)
		}
	}
	return w, api.OK
}

// newWorkOn returns a list at work that has flows with two indices.
func newWorkOn(l []api.Flow, a, b int) (*work, api.Errno) {
	w, e := newWork(l)
	switch {
	case e != api.OK:
		return nil, e
	case !w.has(a) || !w.has(b):
		return nil, api.ErrArg
	}
	return w, api.OK
}
