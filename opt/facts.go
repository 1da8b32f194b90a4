package opt

import (
	"cmp"
	"slices"

	"argus/api"
)

const maxFacts = 3000

// isSaid reports whether a fact is as it is to be, true or not.
func (g *graph) isSaid(x api.Fact) bool {
	kind := g.kind(x.Reg)
	switch x.Kind {
	case api.FactRange:
		return kind == api.RegWord && all.low <= x.Low && x.Low <= x.High && x.High <= all.high && x.Of == 0
	case api.FactSame:
		return (kind == api.RegWord || kind == api.RegRef) && g.kind(x.Of) == kind && x == same(x.Reg, x.Of) && x.Of != x.Reg
	case api.FactNever:
		return 0 <= x.Reg && x.Reg < len(g.Blocks) && x == never(x.Reg)
	}
	return false
}

func within(reg int, s span) api.Fact {
	return api.Fact{Kind: api.FactRange, Reg: reg, Low: s.low, High: s.high}
}

func same(reg, of int) api.Fact { return api.Fact{Kind: api.FactSame, Reg: reg, Of: of} }

func never(block int) api.Fact { return api.Fact{Kind: api.FactNever, Reg: block} }

// follows reports whether a fact follows from what is said.
func (k *known) follows(x api.Fact) bool {
	switch x.Kind {
	case api.FactRange:
		return k.rangeFollows(x)
	case api.FactSame:
		return k.sameFollows(x)
	}
	return k.neverFollows(x)
}

// learn returns what facts say, if they hold.
func (g *graph) learn(l []api.Fact) (*known, bool) {
	isWrong := func(x api.Fact) bool { return !g.isSaid(x) }
	if slices.ContainsFunc(l, isWrong) {
		return nil, false
	}
	k := newKnown(g, l)
	doesNotFollow := func(x api.Fact) bool { return !k.follows(x) }
	return k, !slices.ContainsFunc(l, doesNotFollow)
}

// CheckFacts reports whether facts, any ones, hold in a flow.
func CheckFacts(f api.Flow, l []api.Fact) (bool, api.Errno) {
	g, e := newGraph(f)
	switch {
	case e != api.OK:
		return false, e
	case len(l) > maxFacts:
		return false, api.ErrArg
	}
	_, hold := g.learn(l)
	return hold, api.OK
}

// told returns what facts say about a flow, which have to hold.
func told(f api.Flow, l []api.Fact) (*known, api.Errno) {
	g, e := newGraph(f)
	switch {
	case e != api.OK:
		return nil, e
	case len(l) > maxFacts:
		return nil, api.ErrFact
	}
	k, hold := g.learn(l)
	if !hold {
		return nil, api.ErrFact
	}
	return k, api.OK
}

// Range returns the range of a word by facts that hold.
func Range(f api.Flow, l []api.Fact, r int) (low, high int, e api.Errno) {
	k, e := told(f, l)
	switch {
	case e != api.OK:
		return 0, 0, e
	case k.kind(r) != api.RegWord:
		return 0, 0, api.ErrArg
	}
	return k.spans[r].low, k.spans[r].high, api.OK
}

// Facts returns facts that hold in a flow.
func Facts(f api.Flow) ([]api.Fact, api.Errno) {
	g, e := newGraph(f)
	if e != api.OK {
		return nil, e
	}
	return sorted(find(g), byKind), api.OK
}

func byKind(a, b api.Fact) int { return cmp.Or(cmp.Compare(a.Kind, b.Kind), cmp.Compare(a.Reg, b.Reg)) }

// sorted returns a list in an order, in new memory.
func sorted[T any](l []T, compare func(a, b T) int) []T {
	l = slices.Clone(l)
	slices.SortStableFunc(l, compare)
	return l
}
