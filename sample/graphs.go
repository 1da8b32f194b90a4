package sample

import (
	"slices"

	"argus/api"
)

// Graphs makes single flows with given ways between their blocks. All their registers are words, which are written for
// certain everywhere: six arguments, and More ones that the block 0 writes.
type Graphs struct {
	Chance
	More int
	// Whether there may be phis, and how many instructions a block may have beside them.
	Phis bool
	Most int
}

// MostTargets is how many blocks an end can name.
const MostTargets = 9

// Ways returns, for each of some blocks, those to which its end may lead: most often one or two, and near to it.
func (m *Graphs) Ways(blocks int) [][]int {
	ways := make([][]int, blocks)
	for b := range ways {
		n := Pick(m.Chance, 0, 1, 1, 1, 2, 2, 2, 2, 3, 1+m.IntN(MostTargets))
		for range n {
			to := m.IntN(blocks)
			if m.IntN(4) > 0 {
				to = min(b+1+m.IntN(4), blocks-1)
			}
			ways[b] = append(ways[b], to)
		}
	}
	return ways
}

// Flow makes a flow whose ends lead to given blocks, at most nine each, the first of which is To.
func (m *Graphs) Flow(ways [][]int) api.Flow {
	f := api.Flow{Name: "graph", Args: api.MaxArgs, Result: api.RegWord, Signals: []string{"s1"}, Blocks: make([]api.Block, len(ways))}
	f.Regs = slices.Repeat([]uint8{api.RegWord}, api.MaxArgs+m.More)
	for b := range ways {
		block := &f.Blocks[b]
		if b == 0 {
			for i := range m.More {
				block.Ins = append(block.Ins, api.Ins{Op: api.InsWord, To: api.MaxArgs + i, N: i})
			}
		} else {
			block.Ins = m.phis(len(f.Regs), aheadOf(ways, b))
		}
		for range m.IntN(m.Most + 1) {
			block.Ins = append(block.Ins, m.instruction(len(f.Regs)))
		}
		block.End = m.end(len(f.Regs), ways[b])
	}
	return f
}

// aheadOf returns how many blocks are ahead of one.
func aheadOf(ways [][]int, block int) int {
	n := 0
	for _, l := range ways {
		if slices.Contains(l, block) {
			n++
		}
	}
	return n
}

func (m *Graphs) phis(regs, ahead int) []api.Ins {
	var l []api.Ins
	for m.Phis && ahead > 0 && m.IntN(2) == 0 {
		phi := api.Ins{Op: api.InsPhi, To: m.IntN(regs)}
		for range ahead {
			phi.Args = append(phi.Args, m.IntN(regs))
		}
		l = append(l, phi)
	}
	return l
}

func (m *Graphs) instruction(regs int) api.Ins {
	to, a, b := m.IntN(regs), m.IntN(regs), m.IntN(regs)
	return Pick(m.Chance,
		api.Ins{Op: api.InsWord, To: to, N: m.IntN(5) - 1},
		api.Ins{Op: api.InsWord, To: to, N: m.IntN(5) - 1},
		api.Ins{Op: api.InsMove, To: to, A: a},
		api.Ins{Op: api.InsLt, To: to, A: a, B: b},
		api.Ins{Op: api.InsNot, To: to, A: a},
		api.Ins{Op: api.InsPut, A: a})
}

func (m *Graphs) end(regs int, ways []int) api.End {
	e := api.End{A: m.IntN(regs), Others: -1}
	if len(ways) > 0 {
		e.To = ways[0]
	}
	switch k := m.IntN(3); {
	case len(ways) == 0 && k > 0:
		e.Kind = api.EndReturn
	case len(ways) == 0:
		e.Kind, e.A, e.Name = api.EndSignal, 0, Pick(m.Chance, "s1", "s2")
	case len(ways) == 1 && k > 0:
		e.Kind, e.A = api.EndGoto, 0
	case len(ways) == 2 && k > 0:
		e.Kind, e.Else = api.EndIf, ways[1]
	default:
		e.Kind, e.A = api.EndTry, 0
		e.Ins = api.Ins{Op: Pick(m.Chance, api.TryAdd, api.TryDiv), To: m.IntN(regs), A: m.IntN(regs), B: m.IntN(regs)}
		m.handle(&e, ways[1:])
	}
	return e
}

// handle lets handlers lead to some blocks.
func (m *Graphs) handle(e *api.End, ways []int) {
	if n := len(ways) - 1; n >= 0 && (n == len(signalNames) || m.IntN(2) == 0) {
		e.Others, ways = ways[n], ways[:n]
	}
	for i, to := range ways {
		e.Whens = append(e.Whens, api.When{Name: signalNames[i], To: to})
	}
}

// Changed returns a flow in which something small is another one, so that it is often not valid.
func Changed(c Chance, f api.Flow) api.Flow {
	f.Regs, f.Slots, f.Signals, f.Blocks = slices.Clone(f.Regs), slices.Clone(f.Slots), slices.Clone(f.Signals), slices.Clone(f.Blocks)
	if len(f.Blocks) == 0 {
		return f
	}
	b := &f.Blocks[c.IntN(len(f.Blocks))]
	b.Ins, b.End.Args, b.End.Whens = slices.Clone(b.Ins), slices.Clone(b.End.Args), slices.Clone(b.End.Whens)
	x := &b.End.Ins
	if len(b.Ins) > 0 && c.IntN(2) == 0 {
		x = &b.Ins[c.IntN(len(b.Ins))]
	}
	x.Args = slices.Clone(x.Args)
	number := Pick(c, c.IntN(8), c.IntN(8), c.IntN(len(f.Blocks)), -1, len(f.Blocks), len(f.Regs), -2, api.MaxInt+1, 1<<62, -1<<63)
	switch c.IntN(8) {
	case 0:
		changeHead(c, &f, number)
	case 1:
		x.Op = uint8(c.IntN(40))
	case 2, 3:
		*Pick(c, &x.To, &x.A, &x.B, &x.N) = number
	case 4:
		x.Args = append(x.Args, number)
	case 5, 6:
		*Pick(c, &b.End.A, &b.End.B, &b.End.To, &b.End.Else, &b.End.Others) = number
	case 7:
		b.End.Kind = uint8(c.IntN(11))
	}
	return f
}

func changeHead(c Chance, f *api.Flow, number int) {
	switch c.IntN(6) {
	case 0:
		f.Name = Pick(c, "", "a b", "x")
	case 1:
		f.Iter = !f.Iter
	case 2:
		f.Args = number
	case 3:
		f.Result = uint8(c.IntN(5))
	case 4:
		f.Regs = append(f.Regs[:len(f.Regs)/2], uint8(c.IntN(5)))
	case 5:
		f.Signals = append(f.Signals, Pick(c, "", "a", "S", "zz"))
	}
}
