package face

import (
	"slices"

	"argus/api"
)

// signed is what has a name and a signature.
type signed interface {
	parts() (string, api.Sig)
}

type (
	need      api.Need
	operation api.Op
)

func (n need) parts() (string, api.Sig) { return n.Op, n.Sig }

func (o operation) parts() (string, api.Sig) { return o.Name, o.Sig }

// isSame reports whether needs or operations, or one of each, have the same name and the same signature.
func isSame[A, B signed](a A, b B) bool {
	name, s := a.parts()
	other, r := b.parts()
	return name == other && s.Iter == r.Iter && s.Result == r.Result && slices.Equal(s.Args, r.Args) && slices.Equal(s.Signals, r.Signals)
}

// areNeedsAmong reports whether each of some needs is one of others.
func areNeedsAmong(some, others []api.Need) bool {
	for _, n := range some {
		if !slices.ContainsFunc(others, func(x api.Need) bool { return isSame(need(n), need(x)) }) {
			return false
		}
	}
	return true
}

// areOpsAmong reports whether each of some operations is one of others.
func areOpsAmong(some, others []api.Op) bool {
	for _, o := range some {
		if !slices.ContainsFunc(others, func(x api.Op) bool { return isSame(operation(o), operation(x)) }) {
			return false
		}
	}
	return true
}
