package opt_test

import (
	"fmt"
	"math/rand/v2"
	"slices"

	"argus/api"
	"argus/sample"
)

// walk runs a flow alone, and looks at its facts on the way: what other flows would do is done by chance, as are arguments.
type walk struct {
	*plain
	r       *rand.Rand
	regs    map[int]any // ints and *objects
	slots   map[int]any
	objects []*object
	wrong   string // what is not so
}

// object is an array, for words or references, or it has a tag and fields.
type object struct {
	isArray bool
	tag     int
	kinds   []uint8
	values  []any
}

// walked walks through a flow, and returns what was not as the facts say, or an empty text; it says how many steps there were.
func walked(r *rand.Rand, f api.Flow, facts []api.Fact) (wrong string, steps int) {
	w := &walk{plain: newPlain(f, facts), r: r, regs: map[int]any{}, slots: map[int]any{}}
	for i := range f.Args {
		w.regs[i] = w.any(f.Regs[i])
	}
	for block := 0; block >= 0 && steps < 150 && w.wrong == ""; steps++ {
		block = w.do(block)
	}
	return w.wrong, steps
}

// any returns a value by chance.
func (w *walk) any(kind uint8) any {
	if kind == api.RegWord {
		return sample.Pick(w.r, 0, 0, 1, 2, -1, w.r.IntN(400)-200, api.MaxInt, -api.MaxInt)
	}
	if len(w.objects) > 0 && w.r.IntN(2) == 0 {
		return w.objects[w.r.IntN(len(w.objects))]
	}
	o := &object{isArray: w.r.IntN(2) == 0, tag: w.r.IntN(6), kinds: []uint8{api.RegWord}, values: []any{w.r.IntN(3)}}
	w.objects = append(w.objects, o)
	return o
}

// write writes registers at once, and then looks at what the facts say of them.
func (w *walk) write(to map[int]any) {
	for reg, v := range to {
		w.regs[reg] = v
	}
	for _, x := range w.facts {
		v, isWritten := to[x.Reg]
		switch {
		case !isWritten:
		case x.Kind == api.FactRange && (v.(int) < x.Low || v.(int) > x.High):
			w.wrong = fmt.Sprint("P12.4: ", x, ": ", v)
		case x.Kind == api.FactSame && v != w.regs[x.Of]:
			w.wrong = fmt.Sprint("FactSame: ", x, ": ", v, ", ", w.regs[x.Of])
		}
	}
}

// do does what a block does, and returns the one with which the run goes on, or -1.
func (w *walk) do(block int) int {
	b := w.Blocks[block]
	for _, x := range b.Ins {
		if x.Op == api.InsPhi {
			continue
		}
		_, to := readsOf(x)
		v, isStuck := w.ins(x)
		if isStuck {
			return -1
		}
		if to >= 0 {
			w.write(map[int]any{to: v})
		}
	}
	to := w.end(b.End)
	if to >= 0 {
		w.enter(block, to)
	}
	return to
}

// enter enters a block: its phis take their Args at once.
func (w *walk) enter(from, to int) {
	if w.isNever[to] {
		w.wrong = fmt.Sprint("P12.4: the block ", to, " is entered")
	}
	place := slices.Index(aheadOf(w.Flow, to), from)
	taken := map[int]any{}
	for _, x := range w.Blocks[to].Ins {
		if x.Op == api.InsPhi {
			taken[x.To] = w.regs[x.Args[place]]
		}
	}
	w.write(taken)
}

func (w *walk) int(reg int) int { return w.regs[reg].(int) }

func truth(is bool) any {
	if is {
		return 1
	}
	return 0
}

// ins returns what an instruction writes, if it does, and whether it is stuck.
func (w *walk) ins(x api.Ins) (v any, isStuck bool) {
	switch x.Op {
	case api.InsWord:
		return x.N, false
	case api.InsMove:
		return w.regs[x.A], false
	case api.InsLt:
		return truth(w.int(x.A) < w.int(x.B)), false
	case api.InsLe:
		return truth(w.int(x.A) <= w.int(x.B)), false
	case api.InsEq:
		return truth(w.regs[x.A] == w.regs[x.B]), false
	case api.InsAnd:
		return truth(w.int(x.A) != 0 && w.int(x.B) != 0), false
	case api.InsOr:
		return truth(w.int(x.A) != 0 || w.int(x.B) != 0), false
	case api.InsNot:
		return truth(w.int(x.A) == 0), false
	case api.InsSpill:
		w.slots[x.N] = w.regs[x.A]
	case api.InsLoad:
		return w.slots[x.N], false
	case api.InsPut, api.InsClose:
	default:
		return w.object(x)
	}
	return nil, false
}

// object does what an instruction does with objects.
func (w *walk) object(x api.Ins) (v any, isStuck bool) {
	if x.Op == api.InsNew || x.Op == api.InsMake {
		o := &object{isArray: x.Op == api.InsNew, tag: x.N}
		for _, reg := range x.Args {
			o.kinds, o.values = append(o.kinds, w.Regs[reg]), append(o.values, w.regs[reg])
		}
		w.objects = append(w.objects, o)
		return o, false
	}
	o := w.regs[x.A].(*object)
	isStuck = o.isArray != (x.Op == api.InsSize)
	hasField := !isStuck && x.N < len(o.values)
	switch x.Op {
	case api.InsTag:
		return o.tag, isStuck
	case api.InsSize:
		return len(o.values), isStuck
	case api.InsGet:
		if hasField && o.kinds[x.N] == w.Regs[x.To] {
			return o.values[x.N], false
		}
	case api.InsSet:
		if hasField && o.kinds[x.N] == w.Regs[x.B] {
			o.values[x.N] = w.regs[x.B]
			return nil, false
		}
	}
	return nil, true
}

// end does an end, and returns the block with which the run goes on, or -1.
func (w *walk) end(e api.End) int {
	switch e.Kind {
	case api.EndGoto, api.EndYield, api.EndOpen:
		return e.To
	case api.EndIf:
		if w.int(e.A) != 0 {
			return e.To
		}
		return e.Else
	case api.EndTry:
		v, signal := w.try(e.Ins)
		return w.goOn(e, e.Ins.To, v, signal)
	case api.EndCall, api.EndNext:
		return w.other(e)
	}
	return -1
}

// goOn writes a value, or catches a signal.
func (w *walk) goOn(e api.End, reg int, v any, signal string) int {
	switch {
	case signal == stuck:
		return -1
	case signal == "" && v != nil:
		w.write(map[int]any{reg: v})
		return e.To
	case signal == "":
		return e.To
	}
	for _, h := range e.Whens {
		if h.Name == signal {
			return h.To
		}
	}
	return e.Others
}

// stuck is a signal that there is not.
const stuck = "STUCK"

// try returns what a Try writes, or what it signals.
func (w *walk) try(x api.Ins) (v any, signal string) {
	if x.Op > api.TryMod {
		return w.tryArray(x)
	}
	a, b := w.int(x.A), w.int(x.B)
	n := 0
	switch x.Op {
	case api.TryAdd:
		n = a + b
	case api.TrySub:
		n = a - b
	case api.TryMul:
		n = a * b
	default:
		if b == 0 {
			return nil, "zerodivide"
		}
		rest := a % b
		if rest < 0 {
			rest += max(b, -b)
		}
		if n = rest; x.Op == api.TryDiv {
			n = (a - rest) / b
		}
	}
	if n < -api.MaxInt || n > api.MaxInt {
		return nil, "overflow"
	}
	return n, ""
}

func (w *walk) tryArray(x api.Ins) (v any, signal string) {
	o := w.regs[x.A].(*object)
	n := len(o.values)
	switch {
	case !o.isArray:
		return nil, stuck
	case x.Op == api.TryAddh && n == 200:
		return nil, "overflow"
	case x.Op == api.TryAddh:
		o.kinds, o.values = append(o.kinds, w.Regs[x.B]), append(o.values, w.regs[x.B])
		return nil, ""
	case x.Op == api.TryRemh && n == 0, x.Op != api.TryRemh && (w.int(x.B) < 1 || w.int(x.B) > n):
		return nil, "bounds"
	}
	place := n - 1
	if x.Op != api.TryRemh {
		place = w.int(x.B) - 1
	}
	if x.Op == api.TryStore {
		o.kinds[place], o.values[place] = w.Regs[x.Args[0]], w.regs[x.Args[0]]
		return nil, ""
	}
	if o.kinds[place] != w.Regs[x.To] {
		return nil, stuck
	}
	v = o.values[place]
	if x.Op == api.TryRemh {
		o.kinds, o.values = o.kinds[:place], o.values[:place]
	}
	return v, ""
}

// other does by chance what another flow would do.
func (w *walk) other(e api.End) int {
	reg := e.A
	if e.Kind == api.EndNext {
		reg = e.B
	}
	signal := ""
	if w.r.IntN(3) == 0 {
		signal = "x"
		if len(e.Whens) > 0 && w.r.IntN(2) == 0 {
			signal = e.Whens[w.r.IntN(len(e.Whens))].Name
		}
	}
	switch {
	case e.Kind == api.EndNext && signal == "" && w.r.IntN(3) == 0:
		return e.Else
	case reg < 0:
		return w.goOn(e, reg, nil, signal)
	}
	return w.goOn(e, reg, w.any(w.Regs[reg]), signal)
}
