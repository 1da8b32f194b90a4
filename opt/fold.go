package opt

import (
	"argus/api"
	"argus/flow"
)

// Fold returns a flow that is folded by facts that hold.
func Fold(f api.Flow, l []api.Fact) (api.Flow, api.Errno) {
	k, e := told(f, l)
	if e != api.OK {
		return api.Flow{}, e
	}
	return k.fold(true), api.OK
}

// fold returns the folded flow. Unless blocks may grow, what is tried stays so, even if its result is known.
func (k *known) fold(mayGrow bool) api.Flow {
	f := turnFlow(*k.Flow, k.standing)
	for i := range f.Blocks {
		b := &f.Blocks[i]
		for j, x := range b.Ins {
			if n, isOne := k.only(flow.Writes(x)); isOne && isFolded(x.Op) {
				b.Ins[j] = word(x.To, n)
			}
		}
		// The end as it was tells what is known of what it reads.
		k.foldEnd(b, &k.Blocks[i].End, mayGrow)
	}
	k.pass(&f, upTo(len(f.Blocks)))
	return f
}

// standing returns the register that stands for another one, or that one itself.
func (k *known) standing(reg int) int {
	for k.stands[reg] >= 0 {
		reg = k.stands[reg]
	}
	return reg
}

// only returns the one number that a register can have, if this is known.
func (k *known) only(reg int) (int, bool) {
	if reg < 0 {
		return 0, false
	}
	s := k.spans[reg]
	return s.low, s.low == s.high
}

func word(to, n int) api.Ins { return api.Ins{Op: api.InsWord, To: to, N: n} }

func goTo(block int) api.End { return api.End{Kind: api.EndGoto, To: block, Others: -1} }

// isFolded reports whether an instruction becomes an InsWord if the word that it writes is known.
func isFolded(op uint8) bool { return op == api.InsMove || isPure(op) && op != api.InsWord }

// foldEnd folds the end of a block.
func (k *known) foldEnd(b *api.Block, e *api.End, mayGrow bool) {
	switch {
	case e.Kind == api.EndIf && !k.spans[e.A].mayBeZero():
		b.End = goTo(e.To)
	case e.Kind == api.EndIf && !k.spans[e.A].mayBeTrue():
		b.End = goTo(e.Else)
	case e.Kind == api.EndTry && isReckoned(e.Ins.Op) && k.maySignal(&e.Ins) == "":
		b.End.Whens, b.End.Others = nil, -1
		if n, isOne := k.only(e.Ins.To); isOne && mayGrow && len(b.Ins) < api.MaxIns {
			b.Ins = append(b.Ins, word(e.Ins.To, n))
			b.End = goTo(e.To)
		}
	}
}

// isReckoned reports whether what is tried makes a word of two words alone.
func isReckoned(op uint8) bool { return api.TryAdd <= op && op <= api.TryMod }
