package color

import (
	"slices"

	"argus/api"
	"argus/flow"
	"argus/ssa"
)

// form returns a flow in SSA form that comes from a straight one without phis.
func form(f api.Flow) api.Flow {
	g, _, e := ssa.Into(f)
	return must(g, e)
}

// spilled returns a flow without phis in which no more registers are needed at once than there may be.
func spilled(f api.Flow, words, refs int) api.Flow {
	if !must(flow.Plain(f)) {
		panic(stop{api.ErrPhi})
	}
	if len(f.Slots) > 0 {
		panic(stop{api.ErrArg})
	}
	if min(words, refs) < api.MinRegs {
		panic(stop{api.ErrFew})
	}
	l := limits{api.RegWord: words, api.RegRef: refs}
	straight := must(ssa.Straight(f))
	if newWork(form(straight)).fits(l) {
		return must(flow.Renamed(f, upTo(len(f.Regs))))
	}
	k := newKeeper(newWork(straight), l)
	k.make()
	form(k.made)
	return k.made
}

// fits reports whether the pressures are at most as they may be.
func (w *work) fits(l limits) bool {
	return w.crowd(api.RegWord).size() <= l[api.RegWord] && w.crowd(api.RegRef).size() <= l[api.RegRef]
}

// keeper makes a flow in which some registers are kept in slots. Such a register holds its value within a block alone: what is
// read is loaded, unless it is held already, and what was written is spilled when its register has to hold something else,
// or at the end, if it is read elsewhere.
type keeper struct {
	*chooser
	slotOf map[int]int
	made   api.Flow
	ins    []api.Ins // of the block that is made
	held   set       // which registers hold their values
	fresh  set       // which of these were written since their values were in the slots
}

func newKeeper(w *work, l limits) *keeper {
	k := &keeper{chooser: newChooser(w, l), made: *w.Flow}
	for kind := api.RegWord; kind <= api.RegRef; kind++ {
		k.choose(kind)
	}
	k.slotOf, k.made.Slots = k.slots()
	k.made.Blocks = slices.Clone(w.Blocks)
	return k
}

func (k *keeper) make() {
	for block := range k.counting() {
		k.fill(block)
	}
	for block := range k.counting() {
		k.spillOnWay(block)
	}
	if len(k.made.Blocks) > api.MaxBlocks {
		panic(stop{api.ErrLimit})
	}
}

// begin finds what is held when a block is entered: arguments, or what the end of the only block ahead has written.
func (k *keeper) begin(block int) {
	k.held = set{}
	if block == 0 {
		k.held = setOf(upTo(k.Args)...)
	} else if before := k.before(block); len(before) == 1 {
		k.held = k.writtenOnWay(before[0], block)
	}
	k.held = k.held.and(k.kept).and(k.in[block])
	k.fresh = k.held
}

// writtenOnWay returns what the end of a block writes on its way to another one.
func (k *keeper) writtenOnWay(from, to int) set {
	if e := k.Blocks[from].End; e.To == to && flow.WritesEnd(e) >= 0 {
		return setOf(flow.WritesEnd(e))
	}
	return set{}
}

// fill makes a block.
func (k *keeper) fill(block int) {
	b, lives := &k.Blocks[block], k.lives(block)
	k.begin(block)
	k.ins = nil
	for s := range steps(b) {
		k.load(s, lives[s.at])
		if s.isEnd() {
			break
		}
		k.hold(lives[s.at+1])
		k.write(s, lives[s.at+1])
	}
	k.hold(k.readElsewhere(block))
	for reg := range k.fresh.each() {
		k.spill(reg)
	}
	if len(k.ins) > api.MaxIns {
		panic(stop{api.ErrLimit})
	}
	k.made.Blocks[block].Ins = k.ins
}

// readElsewhere returns what is live on the ways behind a block, and not written there.
func (k *keeper) readElsewhere(block int) set {
	var live set
	for _, to := range k.behind[block] {
		live = live.or(k.in[to].without(k.writtenOnWay(block, to)))
	}
	return live
}

// hold lets registers go that are not live any more.
func (k *keeper) hold(live set) { k.held, k.fresh = k.held.and(live), k.fresh.and(live) }

// load loads what a step reads, ahead of which some registers are live.
func (k *keeper) load(s step, live set) {
	reads := setOf(s.reads()...)
	k.makeRoom(need{live, reads}, s)
	for reg := range reads.and(k.kept).without(k.held).each() {
		k.ins = append(k.ins, api.Ins{Op: api.InsLoad, To: reg, N: k.slotOf[reg]})
		k.held.add(reg)
	}
}

// write makes an instruction, behind which some registers are live.
func (k *keeper) write(s step, live set) {
	written := setOf(s.writes()...)
	k.makeRoom(need{live, written}, step{s.Block, s.at + 1})
	k.ins = append(k.ins, s.Ins[s.at])
	now := written.and(k.kept).and(live)
	k.held, k.fresh = k.held.or(now), k.fresh.or(now)
}

// makeRoom lets registers go until those that are held can be so at a place. What the steps from one on read last goes first.
func (k *keeper) makeRoom(n need, from step) {
	isLater := func(a, b int) bool { return from.nextRead(a) > from.nextRead(b) }
	for kind := api.RegWord; kind <= api.RegRef; kind++ {
		for k.size(need{n.live, n.must.or(k.held)}, kind) > k.limits[kind] {
			reg := least(slices.Collect(k.held.without(n.must).and(k.kinds[kind]).each()), isLater)
			if k.fresh.has(reg) {
				k.spill(reg)
			}
			k.held.drop(reg)
		}
	}
}

// nextRead returns the next step that reads a register before another one writes it, or one behind the end.
func (s step) nextRead(reg int) int {
	for ; s.at <= len(s.Ins); s.at++ {
		switch {
		case slices.Contains(s.reads(), reg):
			return s.at
		case slices.Contains(s.writes(), reg):
			return len(s.Ins) + 1
		}
	}
	return s.at
}

func (k *keeper) spill(reg int) {
	k.ins = append(k.ins, api.Ins{Op: api.InsSpill, A: reg, N: k.slotOf[reg]})
	k.fresh.drop(reg)
}

// spillOnWay spills what the end of a block writes, if it leads where others lead, too.
func (k *keeper) spillOnWay(block int) {
	e := &k.made.Blocks[block].End
	reg := flow.WritesEnd(*e)
	if reg < 0 || !k.kept.has(reg) || !k.in[e.To].has(reg) || len(k.before(e.To)) == 1 {
		return
	}
	k.ins = nil
	k.spill(reg)
	k.made.Blocks = append(k.made.Blocks, api.Block{Ins: k.ins, End: goTo(e.To)})
	// The blocks may lie elsewhere now.
	k.made.Blocks[block].End.To = len(k.made.Blocks) - 1
}
