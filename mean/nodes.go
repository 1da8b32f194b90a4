package mean

import (
	"argus/api"
	"argus/kind"
)

// rule evaluates a node of its kind, whose step is taken: it returns the value of an expression, or why what is evaluated is left.
type rule func(f *frame, n api.Node) (api.Value, leaving)

func rules() map[uint8]rule {
	return map[uint8]rule{
		api.ExInt:    (*frame).int,
		api.ExBool:   (*frame).bool,
		api.ExNil:    (*frame).null,
		api.ExVar:    (*frame).variable,
		api.ExCall:   (*frame).call,
		api.ExUp:     (*frame).kid,
		api.ExDown:   (*frame).kid,
		api.StSeq:    (*frame).sequence,
		api.StSet:    (*frame).set,
		api.StDo:     (*frame).drop,
		api.StIf:     (*frame).choose,
		api.StWhile:  (*frame).repeat,
		api.StFor:    (*frame).iterate,
		api.StReturn: (*frame).giveBack,
		api.StYield:  (*frame).yield,
		api.StSignal: (*frame).signal,
		api.StExcept: (*frame).guard,
		api.StWhen:   (*frame).kid,
		api.StBreak:  (*frame).breakOut,
		api.StCase:   (*frame).tell,
		api.StArm:    (*frame).kid,
		api.StPut:    (*frame).putOut,
	}
}

func (f *frame) int(n api.Node) (api.Value, leaving) { return number(n.N), nil }

func (f *frame) bool(n api.Node) (api.Value, leaving) { return truth(n.N == 1), nil }

func (f *frame) null(api.Node) (api.Value, leaving) { return api.Value{Kind: api.ValNil}, nil }

func (f *frame) variable(n api.Node) (api.Value, leaving) { return f.values[n.N], nil }

// kid is the rule of nodes that do what their last kid does.
func (f *frame) kid(n api.Node) (api.Value, leaving) { return f.eval(n.Kids[0]) }

func (f *frame) call(n api.Node) (api.Value, leaving) {
	args, left := f.evalAll(n.Kids)
	if left != nil {
		return api.Value{}, left
	}
	c := f.calleeOf(n)
	if c.builtIn != nil {
		return c.builtIn(operands{f.run, args, c.part})
	}
	return f.newFrame(c.instance, args, f.depth+1, nil).runBody()
}

func (f *frame) sequence(n api.Node) (api.Value, leaving) {
	_, left := f.evalAll(n.Kids)
	return api.Value{}, left
}

func (f *frame) set(n api.Node) (api.Value, leaving) {
	v, left := f.eval(n.Kids[0])
	if left == nil {
		f.values[n.N] = v
	}
	return api.Value{}, left
}

func (f *frame) drop(n api.Node) (api.Value, leaving) {
	_, left := f.eval(n.Kids[0])
	return api.Value{}, left
}

func (f *frame) choose(n api.Node) (api.Value, leaving) {
	v, left := f.eval(n.Kids[0])
	switch {
	case left != nil:
		return api.Value{}, left
	case isTrue(v):
		return f.eval(n.Kids[1])
	case len(n.Kids) > 2:
		return f.eval(n.Kids[2])
	}
	return api.Value{}, nil
}

func (f *frame) repeat(n api.Node) (api.Value, leaving) {
	for {
		v, left := f.eval(n.Kids[0])
		if left != nil || !isTrue(v) {
			return api.Value{}, left
		}
		if _, left := f.eval(n.Kids[1]); left != nil {
			return api.Value{}, left.beyondLoop()
		}
	}
}

func (f *frame) iterate(n api.Node) (api.Value, leaving) {
	f.step()
	call := f.Nodes[n.Kids[0]]
	args, left := f.evalAll(call.Kids)
	if left != nil {
		return api.Value{}, left
	}
	body := func(v api.Value) leaving {
		f.values[n.N] = v
		_, left := f.eval(n.Kids[1])
		return left
	}
	_, left = f.newFrame(f.calleeOf(call).instance, args, f.depth+1, body).runBody()
	return api.Value{}, beyond(left)
}

func (f *frame) giveBack(n api.Node) (api.Value, leaving) {
	l, left := f.evalAll(n.Kids)
	switch {
	case left != nil:
		return api.Value{}, left
	case len(l) == 0:
		return api.Value{}, returned{}
	}
	return api.Value{}, returned{l[0]}
}

func (f *frame) yield(n api.Node) (api.Value, leaving) {
	v, left := f.eval(n.Kids[0])
	if left != nil {
		return api.Value{}, left
	}
	if left := f.loop(v); left != nil {
		return api.Value{}, givenUp{left}
	}
	return api.Value{}, nil
}

func (f *frame) signal(n api.Node) (api.Value, leaving) { return signal(n.Name) }

func (f *frame) guard(n api.Node) (api.Value, leaving) {
	_, left := f.eval(n.Kids[0])
	s, isSignal := left.(signalled)
	if !isSignal {
		return api.Value{}, left
	}
	for _, k := range n.Kids[1:] {
		if name := f.Nodes[k].Name; name == s.name || name == "" {
			return f.eval(k)
		}
	}
	return api.Value{}, left
}

func (f *frame) breakOut(api.Node) (api.Value, leaving) { return api.Value{}, broken{} }

func (f *frame) tell(n api.Node) (api.Value, leaving) {
	v, left := f.eval(n.Kids[0])
	if left != nil {
		return api.Value{}, left
	}
	parts, _ := kind.Parts(f.closed(f.Nodes[n.Kids[0]].Type))
	o := f.heap[v.N]
	for _, k := range n.Kids[1:] {
		arm := f.Nodes[k]
		if arm.Name == parts[o.Tag].Name {
			f.values[arm.N] = o.Vals[0]
			return f.eval(k)
		}
	}
	return signal("tag")
}

func (f *frame) putOut(n api.Node) (api.Value, leaving) {
	v, left := f.eval(n.Kids[0])
	if left == nil {
		f.put = append(f.put, v.N)
	}
	return api.Value{}, left
}
