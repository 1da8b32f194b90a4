package color

import (
	"iter"

	"argus/api"
	"argus/flow"
)

// step is an instruction of a block or, behind them all, its end.
type step struct {
	*api.Block
	at int
}

// steps yields the instructions of a block, and then its end.
func steps(b *api.Block) iter.Seq[step] {
	return func(yield func(s step) bool) {
		for at := range len(b.Ins) + 1 {
			if !yield(step{b, at}) {
				return
			}
		}
	}
}

func (s step) isEnd() bool { return s.at == len(s.Ins) }

// reads returns the registers that are read where it stands.
func (s step) reads() []int {
	if s.isEnd() {
		return flow.ReadsEnd(s.End)
	}
	return flow.Reads(s.Ins[s.at])
}

// writes returns the one register that it writes, or none.
func (s step) writes() []int {
	reg := flow.WritesEnd(s.End)
	if !s.isEnd() {
		reg = flow.Writes(s.Ins[s.at])
	}
	if reg < 0 {
		return nil
	}
	return []int{reg}
}

// passes returns the Args of a phi, which are read on the ways to it.
func (s step) passes() []int {
	if s.at < phiCount(s.Block) {
		return s.Ins[s.at].Args
	}
	return nil
}

// phiCount returns how many phis a block has.
func phiCount(b *api.Block) int {
	n := 0
	for n < len(b.Ins) && b.Ins[n].Op == api.InsPhi {
		n++
	}
	return n
}

// ways yields where an end names blocks, To first.
func ways(e *api.End) iter.Seq[*int] {
	return func(yield func(to *int) bool) {
		if e.Kind == api.EndReturn || e.Kind == api.EndSignal || !yield(&e.To) {
			return
		}
		if (e.Kind == api.EndIf || e.Kind == api.EndNext) && !yield(&e.Else) {
			return
		}
		for i := range e.Whens {
			if !yield(&e.Whens[i].To) {
				return
			}
		}
		if e.Others >= 0 {
			yield(&e.Others)
		}
	}
}

// goTo returns an end that does nothing but go on.
func goTo(block int) api.End { return api.End{Kind: api.EndGoto, To: block, Others: -1} }
