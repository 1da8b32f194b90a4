package flow

import (
	"slices"

	"argus/api"
)

// maxDepth is how many routines may stand inside each other.
const maxDepth = 400

// A run is left by a panic with one of these.
type (
	spent struct{}
	stuck struct{}
)

// machine runs flows of a valid list.
type machine struct {
	routines map[string]*routine
	does     map[uint8]func(*frame, *api.Ins)
	tries    map[uint8]func(*frame, *api.Ins) string
	ends     map[uint8]func(*frame, *api.End) leaving
	ran      api.Ran
	steps    int // that are allowed
	depth    int
	objects  int
}

func newMachine(l []api.Flow, steps int) *machine {
	m := &machine{routines: map[string]*routine{}, does: instructions(), tries: tries(), ends: ends(), steps: steps}
	for i := range l {
		m.routines[l[i].Name] = &routine{&l[i], aheads(&l[i])}
	}
	return m
}

// run runs a procedure on words.
func (m *machine) run(name string, args []int) (ran api.Ran, e api.Errno) {
	defer func() {
		switch recover().(type) {
		case spent:
			m.ran.Kind = api.RanSpent
			ran = m.ran
		case stuck:
			e = api.ErrStuck
		}
	}()
	f := m.frame(name)
	for i, n := range args {
		f.regs[i].word = n
	}
	l := m.enter(f)
	m.ran.Kind, m.ran.Signal = api.RanDone, l.signal
	switch {
	case l.how == signals:
		m.ran.Kind = api.RanSignal
	case f.code.Result != 0:
		m.ran.Value = api.Value{Kind: api.ValInt, N: l.value.word}
	}
	return m.ran, api.OK
}

// frame returns a new frame of a routine.
func (m *machine) frame(name string) *frame {
	r := m.routines[name]
	return &frame{machine: m, code: r, regs: make([]cell, len(r.Regs)), slots: make([]cell, len(r.Slots))}
}

// pay pays a step.
func (m *machine) pay() {
	if m.ran.Steps == m.steps {
		panic(spent{})
	}
	m.ran.Steps++
}

// made returns a new object, if there may be one more.
func (m *machine) made(x thing) cell {
	if m.objects == api.MaxObjects {
		panic(spent{})
	}
	m.objects++
	return cell{thing: x}
}

// leaving is how a routine is left.
type leaving struct {
	how    uint8
	value  cell   // of what returns or yields
	signal string // of what signals
}

const (
	goesOn  uint8 = 0 // it is not left
	returns uint8 = 1
	yields  uint8 = 2
	signals uint8 = 3
)

// enter runs what can be run until it is left.
func (m *machine) enter(x thing) leaving {
	switch x := x.(type) {
	case *frame:
		return m.runInside(x)
	case *iteration:
		if x.isOver {
			panic(stuck{})
		}
		l := m.runInside(x.frame)
		x.isOver = l.how != yields
		return l
	}
	panic(stuck{})
}

// runInside runs a frame inside those that are run already.
func (m *machine) runInside(f *frame) leaving {
	if m.depth == maxDepth {
		panic(spent{})
	}
	m.depth++
	var l leaving
	for l.how == goesOn {
		l = f.runBlock()
	}
	m.depth--
	return l
}

// runBlock runs the block with which a frame goes on.
func (f *frame) runBlock() leaving {
	b := &f.code.Blocks[f.block]
	for i := phis(b); i < len(b.Ins); i++ {
		f.pay()
		f.does[b.Ins[i].Op](f, &b.Ins[i])
	}
	f.pay()
	return f.ends[b.End.Kind](f, &b.End)
}

// goTo goes on with a block, whose phis take what there is all at once.
func (f *frame) goTo(block int) leaving {
	b := &f.code.Blocks[block]
	if n := phis(b); n > 0 {
		from, _ := slices.BinarySearch(f.code.ahead[block], f.block)
		taken := each(b.Ins[:n], func(x api.Ins) cell { return f.regs[x.Args[from]] })
		for i, c := range taken {
			f.regs[b.Ins[i].To] = c
		}
	}
	f.block = block
	return leaving{}
}

// catch goes on with the handler of a signal, or leaves the routine.
func (f *frame) catch(e *api.End, signal string) leaving {
	for _, w := range e.Whens {
		if w.Name == signal {
			return f.goTo(w.To)
		}
	}
	if e.Others >= 0 {
		return f.goTo(e.Others)
	}
	return f.signal(signal)
}

// signal leaves the routine by a signal.
func (f *frame) signal(name string) leaving {
	if !slices.Contains(f.code.Signals, name) {
		name = "failure"
	}
	return leaving{how: signals, signal: name}
}
