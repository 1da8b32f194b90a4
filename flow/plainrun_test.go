package flow_test

import (
	"slices"

	"argus/api"
)

// A second way to run flows: one step after the other, with a stack of frames, and numbers in all registers. Objects and iterations are known by their numbers.

type plainFrame struct {
	f           *api.Flow
	regs, slots []int
	block, ins  int
	iteration   int // its number, or -1
}

type plainObject struct {
	sort  uint8 // the kind of the elements, or 0 for fields
	tag   int
	kinds []uint8
	vals  []int
}

type plainMachine struct {
	flows      map[string]*api.Flow
	stack      []*plainFrame
	objects    []*plainObject
	iterations []*plainFrame
	isOver     []bool
	ran        api.Ran
	e          api.Errno
	steps      int
}

// plainRun runs a procedure of a valid list on arguments that it takes.
func plainRun(l []api.Flow, name string, args []int, steps int) (api.Ran, api.Errno) {
	m := &plainMachine{flows: map[string]*api.Flow{}, steps: steps}
	for i := range l {
		m.flows[l[i].Name] = &l[i]
	}
	m.stack = []*plainFrame{m.begin(name, args)}
	for m.ran.Kind == 0 && m.e == api.OK {
		m.step()
	}
	if m.e != api.OK {
		return api.Ran{}, m.e
	}
	return m.ran, m.e
}

func (m *plainMachine) begin(name string, args []int) *plainFrame {
	f := m.flows[name]
	g := &plainFrame{f: f, regs: make([]int, len(f.Regs)), slots: make([]int, len(f.Slots)), iteration: -1}
	copy(g.regs, args)
	return g
}

func (m *plainMachine) step() {
	if m.ran.Steps == m.steps {
		m.ran.Kind = api.RanSpent
		return
	}
	f := m.stack[len(m.stack)-1]
	b := f.f.Blocks[f.block]
	for f.ins < len(b.Ins) && b.Ins[f.ins].Op == api.InsPhi {
		f.ins++
	}
	m.ran.Steps++
	if f.ins < len(b.Ins) {
		f.ins++
		if s := m.do(f, b.Ins[f.ins-1]); s != "" {
			m.fail(s)
		}
		return
	}
	m.end(f, b.End)
}

func (m *plainMachine) fail(s string) {
	if s == "stuck" {
		m.e = api.ErrStuck
	} else {
		m.ran.Kind = api.RanSpent
	}
}

func (m *plainMachine) enter(f *plainFrame, to int) {
	var taken []int
	b := f.f.Blocks[to]
	n := 0
	for ; n < len(b.Ins) && b.Ins[n].Op == api.InsPhi; n++ {
		taken = append(taken, f.regs[b.Ins[n].Args[slices.Index(plainAhead(f.f, to), f.block)]])
	}
	for i, v := range taken {
		f.regs[b.Ins[i].To] = v
	}
	f.block, f.ins = to, n
}

func truth(is bool) int {
	if is {
		return 1
	}
	return 0
}

// do does an instruction, and returns a signal, "stuck" or "spent", or nothing.
func (m *plainMachine) do(f *plainFrame, x api.Ins) string {
	at := func(reg int) int {
		if reg < len(f.regs) {
			return f.regs[reg]
		}
		return 0
	}
	a, b := at(x.A), at(x.B)
	set := func(n int) string {
		f.regs[x.To] = n
		return ""
	}
	limited := func(n int) string {
		if n < -1000000000 || 1000000000 < n {
			return "overflow"
		}
		return set(n)
	}
	switch x.Op {
	case api.InsWord:
		return set(x.N)
	case api.InsMove:
		return set(a)
	case api.InsLt:
		return set(truth(a < b))
	case api.InsLe:
		return set(truth(a <= b))
	case api.InsEq:
		return set(truth(a == b))
	case api.InsAnd:
		return set(truth(a != 0 && b != 0))
	case api.InsOr:
		return set(truth(a != 0 || b != 0))
	case api.InsNot:
		return set(truth(a == 0))
	case api.InsPut:
		m.ran.Put = append(m.ran.Put, a)
	case api.InsClose:
		m.isOver[a] = true
	case api.InsLoad:
		return set(f.slots[x.N])
	case api.InsSpill:
		f.slots[x.N] = a
	case api.TryAdd:
		return limited(a + b)
	case api.TrySub:
		return limited(a - b)
	case api.TryMul:
		return limited(a * b)
	case api.TryDiv, api.TryMod:
		if b == 0 {
			return "zerodivide"
		}
		r := ((a % b) + max(b, -b)) % b
		if x.Op == api.TryMod {
			return limited(r)
		}
		return limited((a - r) / b)
	case api.InsNew, api.InsMake:
		if len(m.objects) == 5000 {
			return "spent"
		}
		o := &plainObject{sort: uint8(x.N + 1)}
		if x.Op == api.InsMake {
			o = &plainObject{tag: x.N}
			for _, reg := range x.Args {
				o.kinds, o.vals = append(o.kinds, f.f.Regs[reg]), append(o.vals, f.regs[reg])
			}
		}
		m.objects = append(m.objects, o)
		return set(len(m.objects) - 1)
	default:
		return m.doObject(f, x, a, b)
	}
	return ""
}

// doObject does what asks for an object, the one with the number a.
func (m *plainMachine) doObject(f *plainFrame, x api.Ins, a, b int) string {
	o := m.objects[a]
	kindOf := map[uint8]int{api.InsGet: x.To, api.InsSet: x.B, api.TryAddh: x.B, api.TryRemh: x.To, api.TryFetch: x.To}
	if x.Op == api.TryStore {
		kindOf[x.Op] = x.Args[0]
	}
	kind := uint8(0)
	if reg, is := kindOf[x.Op]; is {
		kind = f.f.Regs[reg]
	}
	isRecord := x.Op == api.InsGet || x.Op == api.InsSet || x.Op == api.InsTag
	switch {
	case isRecord != (o.sort == 0):
		return "stuck"
	case x.Op == api.InsTag:
		f.regs[x.To] = o.tag
		return ""
	case x.Op == api.InsSize:
		f.regs[x.To] = len(o.vals)
		return ""
	case isRecord && (x.N >= len(o.vals) || o.kinds[x.N] != kind), !isRecord && o.sort != kind:
		return "stuck"
	}
	n := map[uint8]int{api.InsGet: x.N, api.InsSet: x.N, api.TryFetch: b - 1, api.TryStore: b - 1, api.TryRemh: len(o.vals) - 1}[x.Op]
	if x.Op == api.TryAddh {
		if len(o.vals) == 200 {
			return "overflow"
		}
		o.vals = append(o.vals, b)
		return ""
	}
	if n < 0 || n >= len(o.vals) {
		return "bounds"
	}
	switch x.Op {
	case api.InsGet, api.TryFetch:
		f.regs[x.To] = o.vals[n]
	case api.InsSet:
		o.vals[n] = b
	case api.TryStore:
		o.vals[n] = f.regs[x.Args[0]]
	case api.TryRemh:
		f.regs[x.To] = o.vals[n]
		o.vals = o.vals[:n]
	}
	return ""
}

func (m *plainMachine) end(f *plainFrame, e api.End) {
	switch e.Kind {
	case api.EndGoto:
		m.enter(f, e.To)
	case api.EndIf:
		m.enter(f, map[bool]int{true: e.To, false: e.Else}[f.regs[e.A] != 0])
	case api.EndTry:
		switch s := m.do(f, e.Ins); s {
		case "":
			m.enter(f, e.To)
		case "stuck", "spent":
			m.fail(s)
		default:
			m.raise(f, e, s)
		}
	case api.EndSignal:
		m.leave(e.Name)
	case api.EndReturn:
		v := 0
		if e.A >= 0 {
			v = f.regs[e.A]
		}
		m.back(f, v)
	case api.EndYield:
		v := f.regs[e.A]
		m.enter(f, e.To)
		m.stack = m.stack[:len(m.stack)-1]
		g, end := m.top()
		g.regs[end.B] = v
		m.enter(g, end.To)
	case api.EndNext:
		i := f.regs[e.A]
		if m.isOver[i] {
			m.fail("stuck")
		} else {
			m.push(m.iterations[i])
		}
	case api.EndCall, api.EndOpen:
		var args []int
		for _, reg := range e.Args {
			args = append(args, f.regs[reg])
		}
		g := m.begin(e.Name, args)
		if e.Kind == api.EndCall {
			m.push(g)
			return
		}
		g.iteration = len(m.iterations)
		m.iterations, m.isOver = append(m.iterations, g), append(m.isOver, false)
		f.regs[e.A] = g.iteration
		m.enter(f, e.To)
	}
}

func (m *plainMachine) top() (*plainFrame, api.End) {
	f := m.stack[len(m.stack)-1]
	return f, f.f.Blocks[f.block].End
}

func (m *plainMachine) push(f *plainFrame) {
	if len(m.stack) == 400 {
		m.fail("spent")
		return
	}
	m.stack = append(m.stack, f)
}

// pop takes the top frame away, and reports whether there is one below.
func (m *plainMachine) pop() bool {
	f := m.stack[len(m.stack)-1]
	if f.iteration >= 0 {
		m.isOver[f.iteration] = true
	}
	m.stack = m.stack[:len(m.stack)-1]
	return len(m.stack) > 0
}

// back returns from a routine.
func (m *plainMachine) back(f *plainFrame, v int) {
	if !m.pop() {
		m.ran.Kind = api.RanDone
		if f.f.Result != 0 {
			m.ran.Value = api.Value{Kind: api.ValInt, N: v}
		}
		return
	}
	g, e := m.top()
	if e.Kind == api.EndNext {
		m.enter(g, e.Else)
		return
	}
	if e.A >= 0 {
		g.regs[e.A] = v
	}
	m.enter(g, e.To)
}

// raise gives a signal to the handlers of an end.
func (m *plainMachine) raise(f *plainFrame, e api.End, s string) {
	for _, w := range e.Whens {
		if w.Name == s {
			m.enter(f, w.To)
			return
		}
	}
	if e.Others >= 0 {
		m.enter(f, e.Others)
		return
	}
	m.leave(s)
}

// leave leaves the top routine by a signal.
func (m *plainMachine) leave(s string) {
	if !slices.Contains(m.stack[len(m.stack)-1].f.Signals, s) {
		s = "failure"
	}
	if !m.pop() {
		m.ran.Kind, m.ran.Signal = api.RanSignal, s
		return
	}
	g, e := m.top()
	m.raise(g, e, s)
}
