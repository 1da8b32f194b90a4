package ssa_test

import (
	"slices"
	"strconv"

	"argus/api"
	"argus/flow"
)

// This file finds out in a second way, which follows the words of the chapter, what package ssa answers.

// fieldsOf tells which fields of an instruction are registers: t To, which is written, a A, b B, l Args.
func fieldsOf(op uint8) string {
	switch op {
	case api.InsWord, api.InsNew, api.InsLoad:
		return "t"
	case api.InsMove, api.InsNot, api.InsGet, api.InsTag, api.InsSize, api.TryRemh:
		return "ta"
	case api.InsLt, api.InsLe, api.InsEq, api.InsAnd, api.InsOr, api.TryAdd, api.TrySub, api.TryMul, api.TryDiv, api.TryMod, api.TryFetch:
		return "tab"
	case api.InsMake, api.InsPhi:
		return "tl"
	case api.InsSet, api.TryAddh:
		return "ab"
	case api.InsPut, api.InsClose, api.InsSpill:
		return "a"
	case api.TryStore:
		return "abl"
	}
	return ""
}

// endFieldsOf tells it of an end: a A, which is read, w A, which is written, b B, which is written, l Args, i Ins.
func endFieldsOf(kind uint8) string {
	switch kind {
	case api.EndIf, api.EndReturn, api.EndYield:
		return "a"
	case api.EndTry:
		return "i"
	case api.EndCall, api.EndOpen:
		return "wl"
	case api.EndNext:
		return "ab"
	}
	return ""
}

// change tells by which register one is replaced, where it is read or written.
type change struct{ read, written func(reg int) int }

// both replaces registers wherever they stand.
func both(to func(reg int) int) change { return change{to, to} }

func (c change) all(l []int) []int {
	out := slices.Clone(l)
	for i := range out {
		out[i] = c.read(out[i])
	}
	return out
}

func (c change) ins(x api.Ins) api.Ins {
	for _, field := range fieldsOf(x.Op) {
		switch field {
		case 't':
			x.To = c.written(x.To)
		case 'a':
			x.A = c.read(x.A)
		case 'b':
			x.B = c.read(x.B)
		case 'l':
			x.Args = c.all(x.Args)
		}
	}
	return x
}

func (c change) end(x api.End) api.End {
	for _, field := range endFieldsOf(x.Kind) {
		switch {
		case field == 'i':
			x.Ins = c.ins(x.Ins)
		case field == 'l':
			x.Args = c.all(x.Args)
		case field == 'b':
			x.B = c.written(x.B)
		case field == 'w' && x.A >= 0:
			x.A = c.written(x.A)
		case field == 'a' && x.A >= 0:
			x.A = c.read(x.A)
		}
	}
	return x
}

func (c change) flow(f api.Flow) api.Flow {
	f = copiedFlow(f)
	for b := range f.Blocks {
		for i, x := range f.Blocks[b].Ins {
			f.Blocks[b].Ins[i] = c.ins(x)
		}
		f.Blocks[b].End = c.end(f.Blocks[b].End)
	}
	return f
}

// readsOf returns what an instruction reads, if it is no phi; and what it writes, or -1.
func readsOf(x api.Ins) (reads []int, to int) {
	to = -1
	c := change{
		func(reg int) int { reads = append(reads, reg); return reg },
		func(reg int) int { to = reg; return reg },
	}
	if c.ins(x); x.Op == api.InsPhi {
		reads = nil
	}
	return reads, to
}

func readsOfEnd(x api.End) (reads []int, to int) {
	to = -1
	c := change{
		func(reg int) int { reads = append(reads, reg); return reg },
		func(reg int) int { to = reg; return reg },
	}
	c.end(x)
	return reads, to
}

// waysOf returns the blocks that an end names, To first.
func waysOf(x api.End) []int {
	if x.Kind == api.EndReturn || x.Kind == api.EndSignal {
		return nil
	}
	l := []int{x.To}
	if x.Kind == api.EndIf || x.Kind == api.EndNext {
		l = append(l, x.Else)
	}
	for _, w := range x.Whens {
		l = append(l, w.To)
	}
	if x.Others != -1 {
		l = append(l, x.Others)
	}
	return l
}

// aheadOf returns the blocks ahead of one.
func aheadOf(f api.Flow, block int) []int {
	var l []int
	for b := range f.Blocks {
		if slices.Contains(waysOf(f.Blocks[b].End), block) {
			l = append(l, b)
		}
	}
	return l
}

// isTwice reports whether an end writes a register, and leads to its To in another way, too.
func isTwice(x api.End) bool {
	_, to := readsOfEnd(x)
	return to >= 0 && slices.Contains(waysOf(x)[1:], x.To)
}

func isStraight(f api.Flow) bool {
	isTwice := func(b api.Block) bool { return isTwice(b.End) }
	return len(aheadOf(f, 0)) == 0 && !slices.ContainsFunc(f.Blocks, isTwice)
}

// counted returns the blocks to which some way leads.
func counted(f api.Flow) map[int]bool {
	counts := map[int]bool{}
	var visit func(b int)
	visit = func(b int) {
		if !counts[b] {
			counts[b] = true
			for _, to := range waysOf(f.Blocks[b].End) {
				visit(to)
			}
		}
	}
	visit(0)
	return counts
}

func isForm(f api.Flow) bool {
	times := map[int]int{}
	for _, b := range f.Blocks {
		for _, x := range b.Ins {
			_, to := readsOf(x)
			times[to]++
		}
		_, to := readsOfEnd(b.End)
		times[to]++
	}
	for reg := range f.Regs {
		if times[reg] > 1 || reg < f.Args && times[reg] > 0 {
			return false
		}
	}
	return flow.Check(f) == api.OK
}

// arrivals are, of a place, the versions of an origin with which some way leads there; -1 is that of no register.
type arrivals map[int]bool

// plainVersions finds the versions where blocks begin: each is followed on all ways, up to where another one takes its place.
type plainVersions struct {
	api.Flow
	origins []int
	at      []map[int]arrivals // by blocks and origins
	begins  []map[int]int      // the phis, by origins
	last    []map[int]int      // what instructions make the versions
}

func newPlainVersions(f api.Flow, origins []int, all int) *plainVersions {
	v := &plainVersions{Flow: f, origins: origins}
	for b, block := range f.Blocks {
		v.at, v.begins, v.last = append(v.at, map[int]arrivals{}), append(v.begins, map[int]int{}), append(v.last, map[int]int{})
		for _, x := range block.Ins {
			if x.Op == api.InsPhi {
				v.begins[b][origins[x.To]] = x.To
			}
			if _, to := readsOf(x); to >= 0 {
				v.last[b][origins[to]] = to
			}
		}
	}
	for origin := range all {
		version := -1
		if origin < f.Args {
			version = origin
		}
		v.arrive(0, origin, version)
	}
	for b := range counted(f) {
		for origin := range all {
			if version := v.behind(b, origin); version >= 0 {
				v.goOn(b, origin, version)
			}
		}
		if _, to := readsOfEnd(f.Blocks[b].End); to >= 0 {
			v.arrive(f.Blocks[b].End.To, origins[to], to)
		}
	}
	return v
}

// behind returns what the instructions of a block make the version of an origin, or -1.
func (v *plainVersions) behind(block, origin int) int {
	if version, is := v.last[block][origin]; is {
		return version
	}
	return -1
}

// goOn follows a version from behind the instructions of a block.
func (v *plainVersions) goOn(block, origin, version int) {
	e := v.Blocks[block].End
	_, written := readsOfEnd(e)
	for _, to := range waysOf(e) {
		if written < 0 || v.origins[written] != origin || to != e.To {
			v.arrive(to, origin, version)
		}
	}
}

// arrive follows a version from the beginning of a block, where a phi takes its place.
func (v *plainVersions) arrive(block, origin, version int) {
	if to, is := v.begins[block][origin]; is {
		version = to
	}
	if v.at[block][origin] == nil {
		v.at[block][origin] = arrivals{}
	}
	if v.at[block][origin][version] {
		return
	}
	v.at[block][origin][version] = true
	if v.behind(block, origin) < 0 {
		v.goOn(block, origin, version)
	}
}

// is reports whether a register is the version of its origin at the beginning of a block.
func (v *plainVersions) is(block, reg int) bool {
	l := v.at[block][v.origins[reg]]
	return len(l) == 1 && l[reg]
}

// isBehind reports it behind the first instructions of a block.
func (v *plainVersions) isBehind(block, n, reg int) bool {
	version := -1
	for _, x := range v.Blocks[block].Ins[:n] {
		if _, to := readsOf(x); to >= 0 && v.origins[to] == v.origins[reg] {
			version = to
		}
	}
	return version == reg || version < 0 && v.is(block, reg)
}

// isOn reports it on the way from a block to another one.
func (v *plainVersions) isOn(from, to, reg int) bool {
	e := v.Blocks[from].End
	if _, written := readsOfEnd(e); written >= 0 && v.origins[written] == v.origins[reg] && to == e.To {
		return written == reg
	}
	return v.isBehind(from, len(v.Blocks[from].Ins), reg)
}

// readsRight reports whether a flow reads the right versions.
func (v *plainVersions) readsRight() bool {
	counts := counted(v.Flow)
	for b := range counts {
		before := aheadOf(v.Flow, b)
		for i, x := range v.Blocks[b].Ins {
			reads, _ := readsOf(x)
			if slices.ContainsFunc(reads, func(reg int) bool { return !v.isBehind(b, i, reg) }) {
				return false
			}
			for j, ahead := range before {
				if x.Op == api.InsPhi && counts[ahead] && !v.isOn(ahead, b, x.Args[j]) {
					return false
				}
			}
		}
		reads, _ := readsOfEnd(v.Blocks[b].End)
		if slices.ContainsFunc(reads, func(reg int) bool { return !v.isBehind(b, len(v.Blocks[b].Ins), reg) }) {
			return false
		}
	}
	return true
}

// comesFrom reports whether a flow comes from a straight one without phis.
func comesFrom(f, g api.Flow, origins []int) bool {
	if !isForm(g) || len(origins) != len(g.Regs) || len(f.Blocks) != len(g.Blocks) {
		return false
	}
	for reg, origin := range origins {
		if origin < 0 || origin >= len(f.Regs) || g.Regs[reg] != f.Regs[origin] || reg < g.Args && origin != reg {
			return false
		}
	}
	for _, b := range g.Blocks {
		phis := map[int]bool{}
		for _, x := range b.Ins {
			if x.Op != api.InsPhi {
				continue
			}
			isOther := func(arg int) bool { return origins[arg] != origins[x.To] }
			if phis[origins[x.To]] || slices.ContainsFunc(x.Args, isOther) {
				return false
			}
			phis[origins[x.To]] = true
		}
	}
	turned := both(func(reg int) int { return origins[reg] }).flow(g)
	for b := range turned.Blocks {
		isPhi := func(x api.Ins) bool { return x.Op == api.InsPhi }
		turned.Blocks[b].Ins = slices.DeleteFunc(turned.Blocks[b].Ins, isPhi)
	}
	turned.Regs = f.Regs
	return same(turned, f) && newPlainVersions(g, origins, len(f.Regs)).readsRight()
}

// plainStraight returns the straight flow of one.
func plainStraight(f api.Flow) api.Flow {
	f = copiedFlow(f)
	if len(aheadOf(f, 0)) > 0 {
		for b := range f.Blocks {
			f.Blocks[b].End = shifted(f.Blocks[b].End)
		}
		f.Blocks = append([]api.Block{block(goTo(1))}, f.Blocks...)
	}
	for b, n := 0, len(f.Blocks); b < n; b++ {
		e := f.Blocks[b].End
		if isTwice(e) {
			f.Blocks = append(f.Blocks, block(goTo(e.To)))
			f.Blocks[b].End.To = len(f.Blocks) - 1
		}
	}
	return f
}

// shifted returns an end with all blocks one further on.
func shifted(e api.End) api.End {
	if e.Kind != api.EndReturn && e.Kind != api.EndSignal {
		e.To++
	}
	if e.Kind == api.EndIf || e.Kind == api.EndNext {
		e.Else++
	}
	for i := range e.Whens {
		e.Whens[i].To++
	}
	if e.Others >= 0 {
		e.Others++
	}
	return e
}

// plainLean leaves one phi out after the other.
func plainLean(f api.Flow) api.Flow {
	for b := range f.Blocks {
		for i, x := range f.Blocks[b].Ins {
			others := map[int]bool{}
			for _, arg := range x.Args {
				if arg != x.To {
					others[arg] = true
				}
			}
			if x.Op != api.InsPhi || len(others) != 1 {
				continue
			}
			f = copiedFlow(f)
			f.Blocks[b].Ins = slices.Delete(f.Blocks[b].Ins, i, i+1)
			for other := range others {
				instead := func(reg int) int {
					if reg == x.To {
						return other
					}
					return reg
				}
				return plainLean(both(instead).flow(f))
			}
		}
	}
	return f
}

func phiCount(f api.Flow) int {
	n := 0
	for _, b := range f.Blocks {
		for _, x := range b.Ins {
			if x.Op == api.InsPhi {
				n++
			}
		}
	}
	return n
}

// allForm returns a flow in SSA form that comes from a straight one: where a block begins, each register that is written for
// certain there has a phi.
func allForm(f api.Flow) form {
	g := form{Flow: copiedFlow(f)}
	for reg := range f.Regs {
		g.origins = append(g.origins, reg)
	}
	fresh := func(origin int) int {
		g.Regs, g.origins = append(g.Regs, f.Regs[origin]), append(g.origins, origin)
		return len(g.Regs) - 1
	}
	at := certain(f)
	begin, ends := make([]map[int]int, len(f.Blocks)), make([]map[int]int, len(f.Blocks))
	for b := range f.Blocks {
		g.Blocks[b].Ins, begin[b] = nil, map[int]int{}
		for _, reg := range at[b] {
			begin[b][reg] = reg
			if b > 0 && len(aheadOf(f, b)) > 0 && f.Regs[reg] != api.RegIter {
				begin[b][reg] = fresh(reg)
				g.Blocks[b].Ins = append(g.Blocks[b].Ins, phi(begin[b][reg]))
			}
		}
	}
	for b := range f.Blocks {
		now := map[int]int{}
		for reg, version := range begin[b] {
			now[reg] = version
		}
		c := change{
			func(reg int) int {
				if version, is := now[reg]; is {
					return version
				}
				return reg
			},
			func(reg int) int {
				// What is opened has one register.
				if f.Regs[reg] != api.RegIter {
					now[reg] = fresh(reg)
					return now[reg]
				}
				now[reg] = reg
				return reg
			},
		}
		for _, x := range f.Blocks[b].Ins {
			x = change{c.read, func(reg int) int { return reg }}.ins(x)
			g.Blocks[b].Ins = append(g.Blocks[b].Ins, change{func(reg int) int { return reg }, c.written}.ins(x))
		}
		e := change{c.read, func(reg int) int { return reg }}.end(f.Blocks[b].End)
		ends[b] = map[int]int{}
		for reg, version := range now {
			ends[b][reg] = version
		}
		g.Blocks[b].End = change{func(reg int) int { return reg }, c.written}.end(e)
	}
	for b := range f.Blocks {
		for i, x := range g.Blocks[b].Ins {
			if x.Op != api.InsPhi {
				break
			}
			for _, ahead := range aheadOf(f, b) {
				origin := g.origins[x.To]
				arg, is := ends[ahead][origin]
				if _, to := readsOfEnd(g.Blocks[ahead].End); to >= 0 && g.origins[to] == origin && g.Blocks[ahead].End.To == b {
					arg, is = to, true
				}
				if !is {
					arg = x.To
				}
				g.Blocks[b].Ins[i].Args = append(g.Blocks[b].Ins[i].Args, arg)
			}
		}
	}
	return g
}

// certain returns the registers that are written for certain where the blocks of a straight flow begin; none where no way leads.
func certain(f api.Flow) [][]int {
	at := make([][]int, len(f.Blocks))
	for reg := range f.Regs {
		// A block that some way reaches without the register being written.
		isWithout := map[int]bool{}
		var visit func(b int)
		visit = func(b int) {
			if isWithout[b] {
				return
			}
			isWithout[b] = true
			for _, x := range f.Blocks[b].Ins {
				if _, to := readsOf(x); to == reg {
					return
				}
			}
			e := f.Blocks[b].End
			_, written := readsOfEnd(e)
			for _, to := range waysOf(e) {
				if written != reg || to != e.To {
					visit(to)
				}
			}
		}
		if reg >= f.Args {
			visit(0)
		}
		for b := range counted(f) {
			if !isWithout[b] {
				at[b] = append(at[b], reg)
			}
		}
	}
	return at
}

// plainLeast returns how few moves do what a set of moves does, over registers below 5, the last of which is to spare; it
// tries all lists of moves, the shorter ones first.
func plainLeast(l []api.Pair) int {
	type state [5]int
	want := func(s state) bool {
		for _, m := range l {
			if s[m.To] != m.From {
				return false
			}
		}
		return true
	}
	start := state{0, 1, 2, 3, 4}
	mayWrite := []int{4}
	for _, m := range l {
		mayWrite = append(mayWrite, m.To)
	}
	isMet := map[state]bool{start: true}
	for n, now := 0, []state{start}; ; n++ {
		var later []state
		for _, s := range now {
			if want(s) {
				return n
			}
			for _, to := range mayWrite {
				for from := range s {
					next := s
					next[to] = s[from]
					if !isMet[next] {
						isMet[next] = true
						later = append(later, next)
					}
				}
			}
		}
		now = later
	}
}

// plainDoes reports whether moves, of any registers, do what a set of moves does, and write no other register but spare.
func plainDoes(s, l []api.Pair, spare int) bool {
	holds := map[int]string{}
	of := func(reg int) string {
		if x := holds[reg]; x != "" {
			return x
		}
		return strconv.Itoa(reg)
	}
	want := map[int]string{}
	for _, m := range l {
		want[m.To] = of(m.From)
	}
	for _, m := range s {
		if want[m.To] == "" && m.To != spare {
			return false
		}
		holds[m.To] = of(m.From)
	}
	for reg, x := range want {
		if of(reg) != x {
			return false
		}
	}
	return true
}
