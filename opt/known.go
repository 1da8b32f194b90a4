package opt

import (
	"iter"
	"slices"

	"argus/api"
)

// known is a flow with what facts say about it.
type known struct {
	*graph
	spans   []span // of each register, by its first range
	stands  []int  // what stands for each register, by the first fact that it is the same; or -1
	same    []set  // all registers that each is said to be the same as
	isNever []bool // of each block
	rules   map[uint8]func(*known, *api.Ins) span
}

// unsaid returns a flow about which nothing is said.
func unsaid(g *graph) *known {
	return &known{
		graph:   g,
		spans:   slices.Repeat([]span{all}, len(g.Regs)),
		stands:  slices.Repeat([]int{-1}, len(g.Regs)),
		same:    make([]set, len(g.Regs)),
		isNever: make([]bool, len(g.Blocks)),
		rules:   rules(),
	}
}

// newKnown returns what facts say that are as they are to be.
func newKnown(g *graph, l []api.Fact) *known {
	k := unsaid(g)
	// Of several facts the first one counts, so it comes last.
	for _, x := range slices.Backward(l) {
		switch x.Kind {
		case api.FactRange:
			k.spans[x.Reg] = span{x.Low, x.High}
		case api.FactSame:
			k.stands[x.Reg] = x.Of
			k.same[x.Reg].add(x.Of)
		case api.FactNever:
			k.isNever[x.Reg] = true
		}
	}
	return k
}

// leads yields the blocks to which the end of a block may lead.
func (k *known) leads(block int) iter.Seq[int] {
	e := &k.Blocks[block].End
	return func(yield func(to int) bool) {
		switch {
		case k.isNever[block]:
		case e.Kind == api.EndIf:
			a := k.spans[e.A]
			if a.mayBeTrue() && !yield(e.To) {
				return
			}
			if a.mayBeZero() {
				yield(e.Else)
			}
		case e.Kind == api.EndTry:
			if yield(e.To) {
				k.leadsBySignal(e, yield)
			}
		default:
			for to := range ways(e) {
				if !yield(*to) {
					return
				}
			}
		}
	}
}

// leadsBySignal yields the block to which an end may lead by what it tries, if there is one.
func (k *known) leadsBySignal(e *api.End, yield func(to int) bool) {
	signal := k.maySignal(&e.Ins)
	if signal == "" {
		return
	}
	for _, w := range e.Whens {
		if w.Name == signal {
			yield(w.To)
			return
		}
	}
	if e.Others >= 0 {
		yield(e.Others)
	}
}

// maySignal returns the only signal that there is of what is tried, or the empty text if it may signal nothing.
func (k *known) maySignal(x *api.Ins) string {
	switch x.Op {
	case api.TryAdd, api.TrySub, api.TryMul:
		if all.has(k.sums(x)) {
			return ""
		}
		return "overflow"
	case api.TryDiv, api.TryMod:
		if !k.spans[x.B].mayBeZero() {
			return ""
		}
		return "zerodivide"
	case api.TryAddh:
		return "overflow"
	}
	return "bounds"
}

// mayLead reports whether the end of a block may lead to another one.
func (k *known) mayLead(from, to int) bool {
	for block := range k.leads(from) {
		if block == to {
			return true
		}
	}
	return false
}

// mayBeEntered reports whether an end may lead to a block.
func (k *known) mayBeEntered(block int) bool {
	may := false
search:
	for _, from := range k.ahead[block] {
		for to := range k.leads(from) {
			if to == block {
				may = true
				break search
			}
		}
	}
	return may
}
