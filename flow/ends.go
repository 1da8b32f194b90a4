package flow

import "argus/api"

// ends returns what ends do, by Kind.
func ends() map[uint8]func(*frame, *api.End) leaving {
	return map[uint8]func(*frame, *api.End) leaving{
		api.EndGoto:   (*frame).endGoto,
		api.EndIf:     (*frame).endIf,
		api.EndReturn: (*frame).endReturn,
		api.EndSignal: (*frame).endSignal,
		api.EndTry:    (*frame).endTry,
		api.EndCall:   (*frame).endCall,
		api.EndOpen:   (*frame).endOpen,
		api.EndNext:   (*frame).endNext,
		api.EndYield:  (*frame).endYield,
	}
}

func (f *frame) endGoto(e *api.End) leaving { return f.goTo(e.To) }

func (f *frame) endIf(e *api.End) leaving {
	if f.regs[e.A].word != 0 {
		return f.goTo(e.To)
	}
	return f.goTo(e.Else)
}

func (f *frame) endReturn(e *api.End) leaving {
	l := leaving{how: returns}
	if e.A >= 0 {
		l.value = f.regs[e.A]
	}
	return l
}

func (f *frame) endSignal(e *api.End) leaving { return f.signal(e.Name) }

func (f *frame) endTry(e *api.End) leaving {
	if signal := f.tries[e.Ins.Op](f, &e.Ins); signal != "" {
		return f.catch(e, signal)
	}
	return f.goTo(e.To)
}

func (f *frame) endCall(e *api.End) leaving {
	l := f.enter(f.called(e))
	if l.how == signals {
		return f.catch(e, l.signal)
	}
	if e.A >= 0 {
		f.regs[e.A] = l.value
	}
	return f.goTo(e.To)
}

// called returns the frame of what an end calls, with its arguments.
func (f *frame) called(e *api.End) *frame {
	g := f.frame(e.Name)
	for i, reg := range e.Args {
		g.regs[i] = f.regs[reg]
	}
	return g
}

func (f *frame) endOpen(e *api.End) leaving {
	f.regs[e.A].thing = &iteration{frame: f.called(e)}
	return f.goTo(e.To)
}

func (f *frame) endNext(e *api.End) leaving {
	switch l := f.enter(f.regs[e.A].thing); l.how {
	case yields:
		f.regs[e.B] = l.value
		return f.goTo(e.To)
	case signals:
		return f.catch(e, l.signal)
	}
	return f.goTo(e.Else)
}

// endYield goes to To at once, since nothing can change what is there until the iteration is resumed.
func (f *frame) endYield(e *api.End) leaving {
	l := leaving{how: yields, value: f.regs[e.A]}
	f.goTo(e.To)
	return l
}
