package color

import (
	"iter"
	"slices"

	"argus/api"
	"argus/dom"
)

// limits says how many registers there may be of each kind that can be kept in slots.
type limits [api.RegRef + 1]int

// chooser chooses which registers of a straight flow without phis are kept in slots.
type chooser struct {
	*work
	limits
	costs []int
	kept  set
}

func newChooser(w *work, l limits) *chooser {
	c := &chooser{work: w, limits: l, costs: make([]int, len(w.Regs))}
	weights := w.weights()
	for block, b := range w.counting() {
		for s := range steps(b) {
			for _, ask := range [...]func(step) []int{step.reads, step.writes} {
				for _, reg := range ask(s) {
					c.costs[reg] += weights[block]
				}
			}
		}
	}
	return c
}

// weights returns of each block how much it costs to do more there: in loops more than elsewhere.
func (w *work) weights() []int {
	const times, most = 8, 1 << 18
	weights := slices.Repeat([]int{1}, len(w.Blocks))
	loops, _ := dom.Loops(*w.Flow)
	for _, l := range loops {
		for _, b := range l.Body {
			weights[b] = min(times*weights[b], most)
		}
	}
	return weights
}

// need is a place at which something is in registers, whatever else is kept in slots: what is read there, or was written.
type need struct{ live, must set }

// wanted yields the places ahead of what reads, and behind what writes.
func (w *work) wanted() iter.Seq[need] {
	return func(yield func(n need) bool) {
		for block, b := range w.counting() {
			lives := w.lives(block)
			for s := range steps(b) {
				if read := setOf(s.reads()...); !read.isEmpty() && !yield(need{lives[s.at], read}) {
					return
				}
			}
			for p := range w.placesIn(block) {
				if !yield(need{p.live, setOf(p.written...)}) {
					return
				}
			}
		}
	}
}

// size returns how many registers of a kind are needed at a place.
func (c *chooser) size(n need, kind uint8) int {
	return n.live.without(c.kept).or(n.must).and(c.kinds[kind]).size()
}

// choose chooses registers of a kind until no more of them are needed anywhere than there may be.
func (c *chooser) choose(kind uint8) {
	var over []need
	fits := func(n need) bool { return c.size(n, kind) <= c.limits[kind] }
	for n := range c.wanted() {
		if !fits(n) {
			over = append(over, n)
		}
	}
	for len(over) > 0 {
		worst := least(over, func(a, b need) bool { return c.size(a, kind) > c.size(b, kind) })
		// All that is live at one place has slots of its own.
		if c.size(worst, kind)-c.limits[kind] > api.MaxSlots {
			panic(stop{api.ErrLimit})
		}
		c.kept.add(c.best(worst.live.without(worst.must).without(c.kept).and(c.kinds[kind]), over))
		over = slices.DeleteFunc(over, fits)
	}
}

// best returns which of some registers costs least, beside the places at which it helps.
func (c *chooser) best(of set, over []need) int {
	gains := make([]int, len(c.Regs))
	for _, n := range over {
		for reg := range n.live.without(n.must).and(of).each() {
			gains[reg]++
		}
	}
	isBetter := func(a, b int) bool { return c.costs[a]*gains[b] < c.costs[b]*gains[a] }
	return least(slices.Collect(of.each()), isBetter)
}

// least returns the first one of the least of a list that is not empty.
func least[T any](l []T, isLess func(a, b T) bool) T {
	first := l[0]
	for _, x := range l[1:] {
		if isLess(x, first) {
			first = x
		}
	}
	return first
}

// slots gives each register that is kept a slot of its kind. Two that do not meet may have the same one.
func (c *chooser) slots() (slotOf map[int]int, kinds []uint8) {
	slotOf = map[int]int{}
	meet := c.pairs(c.kept)
	for reg := range c.kept.each() {
		var taken []int
		for other, slot := range slotOf {
			if meet[pairOf(reg, other)] || c.Regs[reg] != c.Regs[other] {
				taken = append(taken, slot)
			}
		}
		slotOf[reg] = firstFree(taken)
		if slotOf[reg] == len(kinds) {
			kinds = append(kinds, c.Regs[reg])
		}
	}
	if len(kinds) > api.MaxSlots {
		panic(stop{api.ErrLimit})
	}
	return slotOf, kinds
}
