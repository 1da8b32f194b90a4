package sample

import (
	"slices"

	"argus/api"
)

// Flows makes lists of flows by chance, which are valid, and seldom stuck.
type Flows struct {
	Chance
	// What flows may have: phis, slots, references to objects of another sort than is asked for.
	Phis, Slots, Wild bool
	heads             []head
}

// head is what others need of a flow.
type head struct {
	name    string
	isIter  bool
	isPlain bool // it makes words alone
	args    []sort
	result  sort
	signals []string
}

// sort tells what a register holds: all references in one are to objects of the same sort.
type sort int

const (
	nothing    sort = -1
	aWord      sort = 0
	words      sort = 1 // an array of words
	arrays     sort = 2 // an array of those
	pair       sort = 3 // a word, and an array of words
	knot       sort = 4 // a word, a pair, and an array of knots
	knots      sort = 5
	iterations sort = 6
)

func (s sort) kind() uint8 {
	switch s {
	case nothing:
		return 0
	case aWord:
		return api.RegWord
	case iterations:
		return api.RegIter
	}
	return api.RegRef
}

// element returns the sort of the elements of an array.
func (s sort) element() sort {
	switch s {
	case words:
		return aWord
	case arrays:
		return words
	case knots:
		return knot
	}
	return nothing
}

// fields returns the sorts of the fields of an object.
func (s sort) fields() []sort {
	switch s {
	case pair:
		return []sort{aWord, words}
	case knot:
		return []sort{aWord, pair, knots}
	}
	return nil
}

// field returns the sort of one field, or nothing.
func (s sort) field(n int) sort {
	if l := s.fields(); n < len(l) {
		return l[n]
	}
	return nothing
}

// List makes a list of flows; a run can begin with the first one.
func (m *Flows) List() []api.Flow {
	m.heads = nil
	for i := range 2 + m.IntN(4) {
		m.heads = append(m.heads, m.head(i))
	}
	var l []api.Flow
	for i := range m.heads {
		l = append(l, m.flow(i))
	}
	return l
}

var signalNames = [...]string{"bounds", "failure", "high", "low", "overflow", "s1", "zerodivide"}

func (m *Flows) signal() string { return signalNames[m.IntN(len(signalNames))] }

func (m *Flows) head(i int) head {
	h := head{name: string(rune('a'+i)) + Pick(m.Chance, "", "$x", "1"), isPlain: m.IntN(3) == 0, result: nothing}
	kinds := []sort{aWord}
	if i > 0 {
		h.isIter = m.IntN(3) == 0
		kinds = []sort{aWord, aWord, aWord, words, arrays, pair, knot, knots}
	}
	for range m.IntN(4) {
		h.args = append(h.args, Pick(m.Chance, kinds...))
	}
	if h.isPlain {
		kinds = []sort{aWord}
	}
	if h.isIter || m.IntN(4) > 0 {
		h.result = Pick(m.Chance, kinds...)
	}
	for _, s := range signalNames {
		if len(h.signals) < api.MaxSignals && m.IntN(3) == 0 {
			h.signals = append(h.signals, s)
		}
	}
	return h
}

// flowMaker makes a flow: its blocks first, with what they write, and then what they read.
type flowMaker struct {
	*Flows
	head
	number int
	sorts  []sort         // of the registers
	slots  []sort         // of the slots
	opens  map[int]string // the iterators of registers with iterations
	blocks []api.Block
	at     [][]bool // which registers, and then slots, are written for certain where blocks begin; empty if no way leads there
}

func (m *Flows) flow(i int) api.Flow {
	f := &flowMaker{Flows: m, head: m.heads[i], number: i, opens: map[int]string{}}
	f.registers()
	f.makeBlocks()
	f.addPhis()
	f.spread()
	for f.leaveOutNext() {
		f.spread()
	}
	for b := range f.blocks {
		f.fill(b)
	}
	out := api.Flow{Name: f.name, Iter: f.isIter, Args: len(f.args), Result: f.result.kind(), Signals: slices.Clone(f.signals), Blocks: f.blocks}
	for _, s := range f.sorts {
		out.Regs = append(out.Regs, s.kind())
	}
	for _, s := range f.slots {
		out.Slots = append(out.Slots, s.kind())
	}
	return out
}

// registers makes the arguments, one register of each sort, and more.
func (m *flowMaker) registers() {
	m.sorts = slices.Clone(m.args)
	most := knots
	if m.isPlain {
		most = aWord
	}
	for s := aWord; s <= most; s++ {
		m.sorts = append(m.sorts, s)
	}
	for range 1 + m.IntN(8) {
		m.sorts = append(m.sorts, sort(m.IntN(int(most)+1)), aWord)
	}
	for m.Slots && m.IntN(4) > 0 {
		m.slots = append(m.slots, sort(m.IntN(int(most)+1)))
	}
}

// reg returns a register of a sort.
func (m *flowMaker) reg(s sort) int {
	var l []int
	for i, t := range m.sorts {
		if s == t {
			l = append(l, i)
		}
	}
	return Pick(m.Chance, l...)
}

// anyReg returns a register of some sort that is there for certain.
func (m *flowMaker) anyReg() int {
	for {
		if i := m.IntN(len(m.sorts)); m.hasAll(m.sorts[i : i+1]) {
			return i
		}
	}
}

// makeBlocks makes blocks with what is written there.
func (m *flowMaker) makeBlocks() {
	n := 1 + m.IntN(12)
	m.blocks = make([]api.Block, n)
	for b := range m.blocks {
		if b == 0 {
			m.blocks[b].Ins = m.beginning()
		}
		for range m.IntN(5) {
			m.blocks[b].Ins = append(m.blocks[b].Ins, m.instruction())
		}
		m.blocks[b].End = m.end(b)
	}
}

// beginning makes the instructions that write one register of each sort.
func (m *flowMaker) beginning() []api.Ins {
	first := len(m.args)
	l := []api.Ins{{Op: api.InsWord, To: first, N: m.IntN(4)}}
	if m.isPlain {
		return l
	}
	reg := func(s sort) int { return first + int(s) }
	return append(l,
		api.Ins{Op: api.InsNew, To: reg(words)},
		api.Ins{Op: api.InsNew, To: reg(arrays), N: 1},
		api.Ins{Op: api.InsNew, To: reg(knots), N: 1},
		api.Ins{Op: api.InsMake, To: reg(pair), N: m.IntN(6)},
		api.Ins{Op: api.InsMake, To: reg(knot), N: m.IntN(6)})
}

func (m *flowMaker) integer() int {
	return Pick(m.Chance, m.IntN(6)-1, m.IntN(6)-1, m.IntN(200)-100, api.MaxInt, -api.MaxInt)
}

// instruction makes one without what it reads.
func (m *flowMaker) instruction() api.Ins {
	w := m.reg(aWord)
	n := 20
	if m.isPlain {
		n = 12
	}
	switch k := m.IntN(n); k {
	case 0, 1:
		return api.Ins{Op: api.InsWord, To: w, N: m.integer()}
	case 2, 3:
		return api.Ins{Op: api.InsPut}
	case 4, 5, 6, 7, 8, 9:
		return api.Ins{Op: Pick(m.Chance, api.InsLt, api.InsLe, api.InsEq, api.InsAnd, api.InsOr, api.InsNot), To: w}
	case 10:
		return api.Ins{Op: api.InsMove, To: m.anyReg()}
	case 11:
		return m.withSlot()
	case 12:
		s := Pick(m.Chance, words, arrays, knots)
		return api.Ins{Op: api.InsNew, To: m.reg(s), N: int(s.element().kind()) - 1}
	case 13, 14:
		return api.Ins{Op: api.InsMake, To: m.reg(Pick(m.Chance, pair, knot)), N: m.IntN(6)}
	case 15:
		return api.Ins{Op: Pick(m.Chance, api.InsTag, api.InsSize), To: w}
	case 16:
		return api.Ins{Op: api.InsClose}
	case 17:
		return api.Ins{Op: api.InsSet, N: m.IntN(3)}
	default:
		s := Pick(m.Chance, pair, knot)
		n := m.IntN(len(s.fields()))
		return api.Ins{Op: api.InsGet, To: m.reg(s.field(n)), N: n}
	}
}

func (m *flowMaker) withSlot() api.Ins {
	if len(m.slots) == 0 {
		return api.Ins{Op: api.InsMove, To: m.anyReg()}
	}
	n := m.IntN(len(m.slots))
	if m.IntN(2) == 0 {
		return api.Ins{Op: api.InsSpill, N: n}
	}
	return api.Ins{Op: api.InsLoad, To: m.reg(m.slots[n]), N: n}
}

// target chooses a block, most often one that comes later, or one that resumes an iteration.
func (m *flowMaker) target(b int) int {
	isLoop := func(b api.Block) bool { return b.End.Kind == api.EndNext }
	if loop := slices.IndexFunc(m.blocks[:b], isLoop); loop >= 0 && m.IntN(3) == 0 {
		return loop
	}
	if b+1 == len(m.blocks) || m.IntN(7) == 0 {
		return m.IntN(len(m.blocks))
	}
	return b + 1 + m.IntN(min(3, len(m.blocks)-b-1))
}

// end makes an end without what it reads.
func (m *flowMaker) end(b int) api.End {
	if b+1 == len(m.blocks) && m.IntN(4) > 0 {
		return m.last()
	}
	e := api.End{To: m.target(b), Others: -1}
	isOpened := b > 0 && m.blocks[b-1].End.Kind == api.EndOpen
	k := m.IntN(20)
	if isOpened && k > 2 {
		k = 10
	}
	switch k {
	case 0:
		return m.last()
	case 1, 2:
		e.Kind = api.EndGoto
	case 3, 4, 5, 6:
		e.Kind, e.Else = api.EndIf, m.target(b)
	case 7, 8, 9, 11, 12:
		m.call(&e, b)
	case 10:
		m.next(&e, b)
	case 13, 14, 15:
		e.Kind = api.EndTry
		if m.isIter {
			e.Kind = api.EndYield
		}
	default:
		e.Kind = api.EndTry
	}
	if e.Kind == api.EndTry {
		e.Ins = m.try()
	}
	if e.Kind == api.EndTry || e.Kind == api.EndCall || e.Kind == api.EndNext {
		m.handlers(&e, b)
	}
	return e
}

// last makes an end of the routine.
func (m *flowMaker) last() api.End {
	if m.IntN(5) == 0 {
		return api.End{Kind: api.EndSignal, Name: m.signal(), Others: -1}
	}
	return api.End{Kind: api.EndReturn, A: -1, Others: -1}
}

func (m *flowMaker) handlers(e *api.End, b int) {
	for range m.IntN(3) {
		w := api.When{Name: m.signal(), To: m.target(b)}
		isSame := func(other api.When) bool { return other.Name == w.Name }
		if !slices.ContainsFunc(e.Whens, isSame) {
			e.Whens = append(e.Whens, w)
		}
	}
	if m.IntN(3) == 0 {
		e.Others = m.target(b)
	}
}

func (m *flowMaker) try() api.Ins {
	if m.isPlain || m.IntN(2) == 0 {
		return api.Ins{Op: Pick(m.Chance, api.TryAdd, api.TrySub, api.TryMul, api.TryDiv, api.TryMod), To: m.reg(aWord)}
	}
	to := m.reg(Pick(m.Chance, words, arrays, knots).element())
	return Pick(m.Chance, api.Ins{Op: api.TryAddh}, api.Ins{Op: api.TryAddh}, api.Ins{Op: api.TryStore}, api.Ins{Op: api.TryRemh, To: to}, api.Ins{Op: api.TryFetch, To: to})
}

// callee chooses a procedure or an iterator, most often one that stands behind this flow: nil if there is none.
func (m *flowMaker) callee(isIter bool) *head {
	i := m.IntN(len(m.heads))
	if m.IntN(20) > 0 && i <= m.number {
		i = m.number + 1
	}
	for ; i < len(m.heads); i++ {
		if m.heads[i].isIter == isIter && m.hasAll(m.heads[i].args) {
			return &m.heads[i]
		}
	}
	return nil
}

// hasAll reports whether there are registers of some sorts for certain.
func (m *flowMaker) hasAll(l []sort) bool {
	isMissing := func(s sort) bool {
		return s == iterations || m.isPlain && s != aWord && !slices.Contains(m.args, s)
	}
	return !slices.ContainsFunc(l, isMissing)
}

// call makes an end that calls a procedure, or opens an iterator.
func (m *flowMaker) call(e *api.End, b int) {
	h := m.callee(m.IntN(2) == 0)
	switch {
	case h == nil:
		e.Kind = api.EndTry
	case h.isIter:
		m.sorts = append(m.sorts, iterations)
		e.Kind, e.Name, e.A, e.To = api.EndOpen, h.name, len(m.sorts)-1, min(b+1, len(m.blocks)-1)
		m.opens[e.A] = h.name
	default:
		e.Kind, e.Name, e.A = api.EndCall, h.name, -1
		if h.result != nothing && m.hasAll([]sort{h.result}) && m.IntN(5) > 0 {
			e.A = m.reg(h.result)
		}
	}
}

// next makes an end that resumes an iteration that was opened in an earlier block.
func (m *flowMaker) next(e *api.End, b int) {
	e.Kind = api.EndTry
	var opened []int
	for i := range m.sorts {
		if m.opens[i] != "" {
			opened = append(opened, i)
		}
	}
	if len(opened) == 0 {
		return
	}
	e.Kind, e.A, e.Else = api.EndNext, opened[len(opened)-1], m.target(b)
	if m.IntN(4) == 0 {
		e.A = Pick(m.Chance, opened...)
	}
	i := slices.IndexFunc(m.heads, func(h head) bool { return h.name == m.opens[e.A] })
	m.sorts = append(m.sorts, m.heads[i].result)
	e.B = len(m.sorts) - 1
}

// addPhis makes phis, in blocks that stand behind others.
func (m *flowMaker) addPhis() {
	for b := range m.blocks {
		ahead := m.ahead(b)
		for m.Phis && b > 0 && len(ahead) > 0 && m.IntN(3) == 0 {
			phi := api.Ins{Op: api.InsPhi, To: m.anyReg(), Args: make([]int, len(ahead))}
			m.blocks[b].Ins = slices.Insert(m.blocks[b].Ins, 0, phi)
		}
	}
}

// ahead returns the blocks ahead of a block.
func (m *flowMaker) ahead(b int) []int {
	var l []int
	for i := range m.blocks {
		if slices.Contains(leadsTo(&m.blocks[i].End), b) {
			l = append(l, i)
		}
	}
	return l
}

// leadsTo returns the blocks to which an end may lead, To first.
func leadsTo(e *api.End) []int {
	switch e.Kind {
	case api.EndReturn, api.EndSignal:
		return nil
	case api.EndIf:
		return []int{e.To, e.Else}
	}
	l := []int{e.To}
	if e.Kind == api.EndNext {
		l = append(l, e.Else)
	}
	for _, w := range e.Whens {
		l = append(l, w.To)
	}
	if e.Others >= 0 {
		l = append(l, e.Others)
	}
	return l
}
