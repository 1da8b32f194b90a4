package opt

import (
	"slices"

	"argus/api"
	"argus/flow"
)

// Needed returns the needed registers, ascending.
func Needed(f api.Flow) ([]int, api.Errno) {
	g, e := newGraph(f)
	if e != api.OK {
		return nil, e
	}
	needed := g.needed()
	return needed.list(), api.OK
}

// needed returns the registers on which it depends what a run does.
func (g *graph) needed() *set {
	needed := new(set)
	var waiting []int
	need := func(l []int) {
		for _, reg := range l {
			if !needed.has(reg) {
				needed.add(reg)
				waiting = append(waiting, reg)
			}
		}
	}
	for i := range g.Blocks {
		for _, x := range g.Blocks[i].Ins {
			if flow.Writes(x) < 0 {
				need(flow.Reads(x))
			}
		}
		need(flow.ReadsEnd(g.Blocks[i].End))
	}
	for len(waiting) > 0 {
		last := len(waiting) - 1
		reg := waiting[last]
		waiting = waiting[:last]
		if g.isInstruction(reg) {
			need(readsAll(g.by(reg)))
		}
	}
	return needed
}

// readsAll returns what an instruction reads, and what a phi takes.
func readsAll(x *api.Ins) []int {
	if x.Op == api.InsPhi {
		return x.Args
	}
	return flow.Reads(*x)
}

// Dead returns the flow without the instructions that write a register that is not needed.
func Dead(f api.Flow) (api.Flow, api.Errno) {
	g, e := newGraph(f)
	if e != api.OK {
		return api.Flow{}, e
	}
	return g.withoutDead(), api.OK
}

func (g *graph) withoutDead() api.Flow {
	f, needed := renewed(*g.Flow), g.needed()
	isDead := func(x api.Ins) bool {
		reg := flow.Writes(x)
		return reg >= 0 && !needed.has(reg)
	}
	for i := range f.Blocks {
		f.Blocks[i].Ins = slices.DeleteFunc(f.Blocks[i].Ins, isDead)
	}
	return f
}
