package color

import (
	"slices"

	"argus/api"
	"argus/flow"
)

// registers returns where an instruction names registers.
func registers(x *api.Ins) []*int {
	var l []*int
	// Without Args it reads A alone, or A and B, or none of them.
	n := len(flow.Reads(api.Ins{Op: x.Op}))
	if n > 0 {
		l = append(l, &x.A)
	}
	if n > 1 {
		l = append(l, &x.B)
	}
	if flow.Writes(*x) >= 0 {
		l = append(l, &x.To)
	}
	return append(l, pointers(x.Args)...)
}

// registersOfEnd returns where an end names registers.
func registersOfEnd(e *api.End) []*int {
	l := slices.Concat(registers(&e.Ins), pointers(e.Args))
	switch e.Kind {
	case api.EndIf, api.EndReturn, api.EndCall, api.EndOpen, api.EndYield:
		// There may be no result.
		if e.A >= 0 {
			l = append(l, &e.A)
		}
	case api.EndNext:
		l = append(l, &e.A, &e.B)
	}
	return l
}

func pointers(l []int) []*int {
	var to []*int
	for i := range l {
		to = append(to, &l[i])
	}
	return to
}

// shade is what makes a register: a kind and a colour. Iterations have one of their own each, since there is just one end
// that opens them.
type shade struct {
	kind  uint8
	color int
}

const noColor = -1

// leaver leads a flow in SSA form out of it, into as few registers as its colours are, and one more of a kind if moves need it.
type leaver struct {
	*work
	colors []int
	made   api.Flow
	names  map[shade]int // the registers that are made
}

// leave returns a flow without phis, in the registers of a colouring, that does the same as one in SSA form.
func leave(f api.Flow) api.Flow {
	w := newWork(f)
	l := &leaver{work: w, colors: w.paint(), made: must(flow.Renamed(f, upTo(len(f.Regs)))), names: map[shade]int{}}
	l.made.Regs = nil
	for reg := range f.Args {
		l.name(reg)
	}
	for b := range l.made.Blocks {
		l.fill(b)
	}
	for to := range l.counting() {
		for _, from := range l.before(to) {
			l.move(from, to)
		}
	}
	return l.made
}

// name returns the register that stands for another one.
func (l *leaver) name(reg int) int {
	kind := l.Regs[reg]
	if kind == api.RegIter {
		return l.register(shade{kind, reg})
	}
	return l.register(shade{kind, l.colors[reg]})
}

// register returns the register that a shade makes. There are no more than in SSA form: where a spare one is needed, phis have
// others, of which not all are live at one time.
func (l *leaver) register(s shade) int {
	reg, isMade := l.names[s]
	if !isMade {
		reg = len(l.made.Regs)
		l.made.Regs = append(l.made.Regs, s.kind)
		l.names[s] = reg
	}
	return reg
}

// fill makes a block without its phis, and without moves of a register to itself. Where no way leads, there is nothing to do.
func (l *leaver) fill(block int) {
	b := &l.made.Blocks[block]
	if !l.counts[block] {
		*b = api.Block{End: api.End{Kind: api.EndSignal, Name: "failure", Others: -1}}
		return
	}
	b.Ins = slices.Delete(b.Ins, 0, phiCount(b))
	for i := range b.Ins {
		for _, reg := range registers(&b.Ins[i]) {
			*reg = l.name(*reg)
		}
	}
	b.Ins = slices.DeleteFunc(b.Ins, func(x api.Ins) bool { return x.Op == api.InsMove && x.To == x.A })
	for _, reg := range registersOfEnd(&b.End) {
		*reg = l.name(*reg)
	}
}

// moves returns what the phis of a block do on the way from one ahead of it.
func (l *leaver) moves(from, to int) []api.Ins {
	moves := map[uint8][]api.Pair{}
	b := &l.Blocks[to]
	for i := range phiCount(b) {
		phi := &b.Ins[i]
		kind := l.Regs[phi.To]
		if m := (api.Pair{To: l.name(phi.To), From: l.name(l.arg(phi, from, to))}); m.To != m.From {
			moves[kind] = append(moves[kind], m)
		}
	}
	var ins []api.Ins
	for kind := api.RegWord; kind <= api.RegRef; kind++ {
		spare := func() int { return l.register(shade{kind, noColor}) }
		for _, m := range inSequence(moves[kind], spare) {
			ins = append(ins, api.Ins{Op: api.InsMove, To: m.To, A: m.From})
		}
	}
	return ins
}

// inSequence returns moves that do one after the other what some of one kind do at once. What none of the others reads is
// written first; where there is nothing like that, a spare register keeps what is read. (There may be more moves than
// ssa.Sequence takes.)
func inSequence(moves []api.Pair, spare func() int) []api.Pair {
	var done []api.Pair
	for len(moves) > 0 {
		isFree := func(m api.Pair) bool {
			return !slices.ContainsFunc(moves, func(other api.Pair) bool { return other.From == m.To })
		}
		i := slices.IndexFunc(moves, isFree)
		if i < 0 {
			i = 0
			done = append(done, api.Pair{To: spare(), From: moves[0].To})
			reader := slices.IndexFunc(moves, func(m api.Pair) bool { return m.From == moves[0].To })
			moves[reader].From = spare()
		}
		done = append(done, moves[i])
		moves = slices.Delete(moves, i, i+1)
	}
	return done
}

// move puts the moves on the way from one block to another one ahead of the end of that, if it goes on to the other one alone,
// and otherwise between both. (A block behind just one has no phis.)
func (l *leaver) move(from, to int) {
	moves := l.moves(from, to)
	b := &l.made.Blocks[from]
	switch {
	case len(moves) == 0:
	case len(l.behind[from]) == 1 && len(b.Ins)+len(moves) <= api.MaxIns && areApart(moves, &b.End):
		b.Ins = append(b.Ins, moves...)
	default:
		l.moveBetween(from, to, moves)
	}
}

// areApart reports whether moves do the same ahead of an end as behind it.
func areApart(moves []api.Ins, e *api.End) bool {
	for _, m := range moves {
		if slices.Contains(flow.ReadsEnd(*e), m.To) || flow.WritesEnd(*e) == m.To || flow.WritesEnd(*e) == m.A {
			return false
		}
	}
	return true
}

// moveBetween puts moves into blocks on the way from one block to another one.
func (l *leaver) moveBetween(from, to int, moves []api.Ins) {
	for way := range ways(&l.made.Blocks[from].End) {
		if *way == to {
			*way = len(l.made.Blocks)
		}
	}
	for part := range slices.Chunk(moves, api.MaxIns) {
		l.made.Blocks = append(l.made.Blocks, api.Block{Ins: part, End: goTo(len(l.made.Blocks) + 1)})
	}
	if len(l.made.Blocks) > api.MaxBlocks {
		panic(stop{api.ErrLimit})
	}
	l.made.Blocks[len(l.made.Blocks)-1].End.To = to
}
