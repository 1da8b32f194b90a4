package check

import (
	"slices"
	"strconv"

	"argus/api"
	"argus/kind"
)

// Modules returns modules without sugar that make a program.
func Modules(p api.Program) ([]api.Module, api.Errno) {
	if e := CheckProgram(p); e != api.OK {
		return nil, e
	}
	l := modulesOf(p)
	// Some programs that are valid are made by no modules: each variable of these is declared once, ahead of its uses.
	if again, f := Check(l); f != (api.Fault{}) || !slices.EqualFunc(p.Cores, again.Cores, hasEqualBody) {
		return nil, api.ErrArg
	}
	return l, api.OK
}

// modulesOf returns a module for each face.
func modulesOf(p api.Program) []api.Module {
	var l []api.Module
	rest := p.Cores
	for i, f := range p.Faces {
		m := api.Module{Face: cloneFace(f), Rep: p.Reps[i]}
		cores := coresOf(f, rest)
		rest = rest[len(cores):]
		for _, c := range cores {
			m.Routines = append(m.Routines, writeRoutine(cloneCore(c)))
		}
		l = append(l, m)
	}
	return l
}

// hasEqualBody reports whether two cores of a routine have equal slots and nodes.
func hasEqualBody(a, b api.Core) bool {
	return slices.Equal(a.Slots, b.Slots) && slices.EqualFunc(a.Nodes, b.Nodes, equalNodes)
}

func equalNodes(a, b api.Node) bool {
	isLike := a.Kind == b.Kind && a.Name == b.Name && a.Var == b.Var && a.Type == b.Type && a.N == b.N
	return isLike && slices.Equal(a.Kids, b.Kids)
}

// writer turns the nodes of a core into those of a routine; declared has the slots that are declared already.
type writer struct {
	api.Core
	declared map[int]bool
}

// writeRoutine returns the routine that a core is of, in the memory of the core.
func writeRoutine(c api.Core) api.Routine {
	w := writer{c, map[int]bool{}}
	r := api.Routine{Name: c.Name, Sig: c.Sig, Nodes: c.Nodes}
	for slot := range c.Sig.Args {
		r.Params = append(r.Params, nameOf(slot))
		w.declared[slot] = true
	}
	for _, n := range c.Nodes {
		if n.Kind == api.StFor || n.Kind == api.StArm {
			w.declared[n.N] = true
		}
	}
	for i, n := range c.Nodes {
		r.Nodes[i] = w.written(n)
	}
	return r
}

// nameOf returns the name of a slot.
func nameOf(slot int) string { return "v" + strconv.Itoa(slot) }

// written returns a node as it stands in a source.
func (w writer) written(n api.Node) api.Node {
	out := api.Node{Kind: n.Kind, Name: n.Name, N: n.N, Kids: n.Kids}
	switch n.Kind {
	case api.ExVar:
		out.Name, out.N = nameOf(n.N), 0
	case api.StFor:
		out.Name, out.Type, out.N = nameOf(n.N), w.Slots[n.N], 0
	case api.StArm:
		out.Var, out.Type, out.N = nameOf(n.N), w.Slots[n.N], 0
	case api.StSet:
		out.Name, out.N = nameOf(n.N), 0
		if !w.declared[n.N] {
			w.declared[n.N] = true
			out.Kind, out.Type = api.StVar, w.Slots[n.N]
		}
	case api.ExCall:
		return writtenCall(n)
	}
	return out
}

func writtenCall(n api.Node) api.Node {
	out := api.Node{Kind: n.Kind, Name: n.Name, Var: n.Var, Kids: n.Kids}
	if n.N == 1 {
		out.Name, _ = kind.Base(n.Var)
		out.Type, _, _ = kind.Arg(n.Var)
		out.Var = ""
	}
	return out
}
