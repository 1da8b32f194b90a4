package sample

import (
	"slices"

	"argus/api"
)

// writes returns what an instruction writes: a register, a slot behind the registers, or -1.
func (m *flowMaker) writes(x *api.Ins) int {
	switch x.Op {
	case api.InsSpill:
		return len(m.sorts) + x.N
	case api.InsSet, api.InsPut, api.InsClose, api.TryAddh, api.TryStore:
		return -1
	}
	return x.To
}

// endWrites returns the register that an end writes on its way to To, or -1.
func (m *flowMaker) endWrites(e *api.End) int {
	switch e.Kind {
	case api.EndTry:
		return m.writes(&e.Ins)
	case api.EndCall, api.EndOpen:
		return e.A
	case api.EndNext:
		return e.B
	}
	return -1
}

// out returns what is written for certain behind the instructions of a block.
func (m *flowMaker) out(b int) []bool {
	set := slices.Clone(m.at[b])
	for i := range m.blocks[b].Ins {
		m.add(set, m.writes(&m.blocks[b].Ins[i]))
	}
	return set
}

func (m *flowMaker) add(set []bool, x int) {
	if x >= 0 {
		set[x] = true
	}
}

// onWay returns what is written for certain on the way from a block to one behind it.
func (m *flowMaker) onWay(from, to int) []bool {
	set, e := m.out(from), &m.blocks[from].End
	isTo := func(b int) bool { return b == to }
	others := slices.DeleteFunc(leadsTo(e), func(b int) bool { return !isTo(b) })
	if len(others) == 1 && e.To == to {
		m.add(set, m.endWrites(e))
	}
	return set
}

// spread finds what is written for certain where blocks begin.
func (m *flowMaker) spread() {
	m.at = make([][]bool, len(m.blocks))
	m.at[0] = make([]bool, len(m.sorts)+len(m.slots))
	for i := range m.args {
		m.at[0][i] = true
	}
	for changed := true; changed; {
		changed = false
		for b := range m.blocks {
			if m.at[b] == nil {
				continue
			}
			for _, to := range leadsTo(&m.blocks[b].End) {
				changed = m.meet(to, m.onWay(b, to)) || changed
			}
		}
	}
}

// meet leaves at a block what is written on a further way to it, and reports whether that is a change.
func (m *flowMaker) meet(b int, set []bool) bool {
	if m.at[b] == nil {
		m.at[b] = set
		return true
	}
	changed := false
	for i, is := range m.at[b] {
		if is && !set[i] {
			m.at[b][i], changed = false, true
		}
	}
	return changed
}

// leaveOutNext turns an end that resumes what is not opened for certain, and reports whether there was one.
func (m *flowMaker) leaveOutNext() bool {
	for b := range m.blocks {
		e := &m.blocks[b].End
		if e.Kind != api.EndNext || m.at[b] == nil || m.out(b)[e.A] {
			continue
		}
		// The blocks behind it stay, as phis have Args for them.
		others := e.Others
		*e = api.End{Kind: api.EndTry, Ins: api.Ins{Op: api.TryDiv, To: m.reg(aWord)}, To: e.To, Whens: e.Whens, Others: e.Else}
		if others >= 0 && !slices.Contains(leadsTo(e), others) {
			e.Whens = withOthers(e.Whens, others)
		}
		return true
	}
	return false
}

// withOthers adds a handler for a signal that has none.
func withOthers(l []api.When, to int) []api.When {
	for _, s := range signalNames {
		if !slices.ContainsFunc(l, func(w api.When) bool { return w.Name == s }) {
			return append(l, api.When{Name: s, To: to})
		}
	}
	return l
}

// choose returns a register that is written for certain, of a sort.
func (m *flowMaker) choose(set []bool, s sort) int {
	return m.chooseOf(set, func(t sort) bool { return s == t })
}

// chooseOf returns a register that is written for certain, with a sort that is right, or -1.
func (m *flowMaker) chooseOf(set []bool, isRight func(s sort) bool) int {
	var l []int
	for i, s := range m.sorts {
		isRef := m.Wild && s.kind() == api.RegRef && m.anyRight(isRight) && m.IntN(4) == 0
		if (set == nil || set[i]) && (isRight(s) || isRef) {
			l = append(l, i)
		}
	}
	if len(l) == 0 {
		return -1
	}
	return Pick(m.Chance, l...)
}

// anyRight reports whether references of some sort are right.
func (m *flowMaker) anyRight(isRight func(s sort) bool) bool {
	for s := words; s <= knots; s++ {
		if isRight(s) {
			return true
		}
	}
	return false
}

// fill chooses what a block reads. Where no way leads it may read anything.
func (m *flowMaker) fill(b int) {
	set := m.at[b]
	if set != nil {
		set = slices.Clone(set)
	}
	for i := range m.blocks[b].Ins {
		x := &m.blocks[b].Ins[i]
		if x.Op == api.InsPhi {
			m.fillPhi(b, x)
		} else {
			m.fillIns(set, x)
		}
		if set != nil {
			m.add(set, m.writes(x))
		}
	}
	m.fillEnd(set, &m.blocks[b].End)
}

func (m *flowMaker) fillPhi(b int, x *api.Ins) {
	for i, from := range m.ahead(b) {
		var set []bool
		if m.at[from] != nil {
			set = m.onWay(from, b)
		}
		x.Args[i] = m.choose(set, m.sorts[x.To])
	}
}

// fillIns chooses what an instruction reads; one that finds nothing to read comes to be another one, which writes the same.
func (m *flowMaker) fillIns(set []bool, x *api.Ins) {
	isArray := func(s sort) bool { return s.element() != nothing }
	isArrayOfTo := func(s sort) bool { return isArray(s) && s.element() == m.sorts[x.To] }
	isRecord := func(s sort) bool { return s.fields() != nil }
	switch x.Op {
	case api.InsLt, api.InsLe, api.InsAnd, api.InsOr, api.TryAdd, api.TrySub, api.TryMul, api.TryDiv, api.TryMod:
		x.A, x.B = m.choose(set, aWord), m.choose(set, aWord)
	case api.InsNot, api.InsPut:
		x.A = m.choose(set, aWord)
	case api.InsEq:
		x.A = m.chooseOf(set, func(s sort) bool { return s != iterations })
		x.B = m.chooseOf(set, func(s sort) bool { return s.kind() == m.sorts[x.A].kind() })
	case api.InsMove:
		x.A = m.choose(set, m.sorts[x.To])
	case api.InsMake:
		for _, s := range m.sorts[x.To].fields() {
			x.Args = append(x.Args, m.choose(set, s))
		}
	case api.InsGet:
		x.A = m.chooseOf(set, func(s sort) bool { return isRecord(s) && s.field(x.N) == m.sorts[x.To] })
	case api.InsSet:
		x.A = m.chooseOf(set, func(s sort) bool { return s.field(x.N) != nothing })
		x.B = m.like(set, m.sorts[x.A].field(x.N))
	case api.InsTag:
		x.A = m.chooseOf(set, isRecord)
	case api.InsSize:
		x.A = m.chooseOf(set, isArray)
	case api.InsClose:
		m.fillClose(set, x)
	case api.InsLoad:
		if set != nil && !set[len(m.sorts)+x.N] {
			*x = api.Ins{Op: api.InsMove, To: x.To, A: m.choose(set, m.sorts[x.To])}
		}
	case api.InsSpill:
		x.A = m.choose(set, m.slots[x.N])
	case api.TryAddh, api.TryStore:
		x.A = m.chooseOf(set, isArray)
		m.fillElement(set, x)
	case api.TryRemh, api.TryFetch:
		x.A = m.chooseOf(set, isArrayOfTo)
		if x.Op == api.TryFetch {
			x.B = m.choose(set, aWord)
		}
	}
}

// like returns a register of a sort; any one will do where there is none.
func (m *flowMaker) like(set []bool, s sort) int {
	if s == nothing {
		return m.chooseOf(set, func(s sort) bool { return s != iterations })
	}
	return m.choose(set, s)
}

func (m *flowMaker) fillElement(set []bool, x *api.Ins) {
	element := m.like(set, m.sorts[x.A].element())
	if x.Op == api.TryAddh {
		x.B = element
		return
	}
	x.B, x.Args = m.choose(set, aWord), []int{element}
}

// fillClose chooses an iteration; without one something is put.
func (m *flowMaker) fillClose(set []bool, x *api.Ins) {
	if x.A = m.choose(set, iterations); x.A < 0 {
		*x = api.Ins{Op: api.InsPut, A: m.choose(set, aWord)}
	}
}

func (m *flowMaker) fillEnd(set []bool, e *api.End) {
	switch e.Kind {
	case api.EndIf:
		e.A = m.choose(set, aWord)
	case api.EndReturn:
		if !m.isIter && m.result != nothing {
			e.A = m.choose(set, m.result)
		}
	case api.EndTry:
		m.fillIns(set, &e.Ins)
	case api.EndYield:
		e.A = m.choose(set, m.result)
	case api.EndCall, api.EndOpen:
		i := slices.IndexFunc(m.heads, func(h head) bool { return h.name == e.Name })
		for _, s := range m.heads[i].args {
			e.Args = append(e.Args, m.choose(set, s))
		}
	}
}
