package share

import (
	"slices"

	"argus/api"
	"argus/flow"
)

// anyName stands in the place of the Names that do not count.
const anyName = "_"

// isCall reports whether the Name of an end is that of a flow.
func isCall(e *api.End) bool { return e.Kind == api.EndCall || e.Kind == api.EndOpen }

// callsOf returns the Names in the calls of a flow.
func callsOf(f *api.Flow) []string {
	var names []string
	for i := range f.Blocks {
		if e := &f.Blocks[i].End; isCall(e) {
			names = append(names, e.Name)
		}
	}
	return names
}

// shapeOf returns the shape of a valid flow.
func shapeOf(f api.Flow) string {
	f = turned(f, func(string) string { return anyName })
	f.Name = anyName
	text, _ := flow.Write(f)
	return text
}

// turned returns a flow with other Names in its calls. What they do not stand in is shared with the flow as it was.
func turned(f api.Flow, turn func(name string) string) api.Flow {
	f.Blocks = slices.Clone(f.Blocks)
	for i := range f.Blocks {
		if e := &f.Blocks[i].End; isCall(e) {
			e.Name = turn(e.Name)
		}
	}
	return f
}

// renewed returns a flow in new memory.
func renewed(f api.Flow) api.Flow {
	f.Regs, f.Slots, f.Signals = slices.Clone(f.Regs), slices.Clone(f.Slots), slices.Clone(f.Signals)
	f.Blocks = slices.Clone(f.Blocks)
	for i := range f.Blocks {
		b := &f.Blocks[i]
		b.Ins = slices.Clone(b.Ins)
		for j := range b.Ins {
			b.Ins[j].Args = slices.Clone(b.Ins[j].Args)
		}
		b.End.Ins.Args = slices.Clone(b.End.Ins.Args)
		b.End.Args, b.End.Whens = slices.Clone(b.End.Args), slices.Clone(b.End.Whens)
	}
	return f
}
