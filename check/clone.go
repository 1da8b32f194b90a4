package check

import (
	"slices"

	"argus/api"
)

func cloneSig(s api.Sig) api.Sig {
	s.Args = slices.Clone(s.Args)
	s.Signals = slices.Clone(s.Signals)
	return s
}

func cloneFace(f api.Face) api.Face {
	f.Needs = slices.Clone(f.Needs)
	for i, n := range f.Needs {
		f.Needs[i].Sig = cloneSig(n.Sig)
	}
	f.Ops = slices.Clone(f.Ops)
	for i, o := range f.Ops {
		f.Ops[i].Sig = cloneSig(o.Sig)
	}
	return f
}

func cloneCore(c api.Core) api.Core {
	c.Sig = cloneSig(c.Sig)
	c.Slots = slices.Clone(c.Slots)
	c.Nodes = slices.Clone(c.Nodes)
	for i, n := range c.Nodes {
		c.Nodes[i].Kids = slices.Clone(n.Kids)
	}
	return c
}

// typesOf returns the types of the arguments, and that of the result, if there is one.
func typesOf(s api.Sig) []string {
	l := slices.Clone(s.Args)
	if s.Result != "" {
		l = append(l, s.Result)
	}
	return l
}

func equalSigs(a, b api.Sig) bool {
	return a.Iter == b.Iter && a.Result == b.Result && slices.Equal(a.Args, b.Args) && slices.Equal(a.Signals, b.Signals)
}
