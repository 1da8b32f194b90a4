package share

import (
	"slices"

	"argus/api"
)

// merger is a list at work, of which some flows are kept.
type merger struct {
	*work
	isKept []bool
	stands []int // what is called in the place of each flow
}

func newMerger(l []api.Flow, keep []string) (*merger, api.Errno) {
	w, e := newWork(l)
	switch {
	case e != api.OK:
		return nil, e
	case len(keep) > api.MaxFlows:
		return nil, api.ErrLimit
	}
	m := &merger{work: w, isKept: make([]bool, len(l)), stands: make([]int, len(l))}
	for _, name := range keep {
		i, isThere := w.find(name)
		if !isThere {
			return nil, api.ErrNone
		}
		m.isKept[i] = true
	}
	m.stand()
	return m, api.OK
}

// stand chooses what stands for the flows of each class. Indices are in the order of Names, so the first one has the least Name.
func (m *merger) stand() {
	isKept := func(i int) bool { return m.isKept[i] }
	for _, class := range m.classes() {
		first := max(slices.IndexFunc(class, isKept), 0)
		for _, i := range class {
			m.stands[i] = class[first]
		}
	}
}

// names returns the Name that stands in calls of each flow.
func (m *merger) names() []string {
	names := make([]string, len(m.stands))
	for i, other := range m.stands {
		names[i] = m.flows[other].Name
	}
	return names
}

// merged returns the flows that are left.
func (m *merger) merged() []api.Flow {
	names := m.names()
	turn := func(name string) string {
		i, _ := m.find(name)
		return names[i]
	}
	var left []api.Flow
	for i, f := range m.flows {
		if m.isKept[i] || m.stands[i] == i {
			left = append(left, renewed(turned(f, turn)))
		}
	}
	return left
}
