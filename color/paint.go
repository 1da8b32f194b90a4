package color

import (
	"slices"

	"argus/api"
	"argus/dom"
)

// painter gives the registers of a flow in SSA form numbers, which are called colours. Where a register is written, all that
// is live has its colour already, since the block in which it was written dominates this one: as many are taken as a crowd has.
type painter struct {
	*work
	colors  []int
	painted set
	friends [][]int     // of each register, those that had best have the same colour
	webs    []int       // of each register, the one that stands for all that friends lead to
	wishes  map[int]int // the colours that were given last in the webs
}

// paint returns a colouring.
func (w *work) paint() []int {
	p := &painter{work: w, colors: make([]int, len(w.Regs)), friends: make([][]int, len(w.Regs)), wishes: map[int]int{}}
	p.join()
	children := make([][]int, len(w.Blocks))
	parents, _ := dom.Idom(*w.Flow)
	for b, parent := range parents {
		if parent >= 0 {
			children[parent] = append(children[parent], b)
		}
	}
	var enter func(block int)
	enter = func(block int) {
		for place := range w.placesIn(block) {
			for _, reg := range place.written {
				p.give(reg, place.crowd())
			}
		}
		for _, child := range children[block] {
			enter(child)
		}
	}
	enter(0)
	return p.colors
}

// join finds friends: a phi or a move has nothing to do between registers of one colour.
func (p *painter) join() {
	for _, b := range p.counting() {
		for _, x := range b.Ins {
			from := x.Args
			switch x.Op {
			case api.InsMove:
				from = []int{x.A}
			case api.InsPhi:
			default:
				continue
			}
			for _, reg := range from {
				p.friends[reg], p.friends[x.To] = append(p.friends[reg], x.To), append(p.friends[x.To], reg)
			}
		}
	}
	p.webs = slices.Repeat([]int{-1}, len(p.Regs))
	var spread func(reg, web int)
	spread = func(reg, web int) {
		if p.webs[reg] < 0 {
			p.webs[reg] = web
			for _, friend := range p.friends[reg] {
				spread(friend, web)
			}
		}
	}
	for reg := range p.Regs {
		spread(reg, reg)
	}
}

// give gives a register of a crowd a colour that no other one of its kind there has.
func (p *painter) give(reg int, crowd set) {
	var taken []int
	for other := range crowd.and(p.kinds[p.Regs[reg]]).and(p.painted).each() {
		taken = append(taken, p.colors[other])
	}
	p.colors[reg] = p.best(reg, taken)
	p.wishes[p.webs[reg]] = p.colors[reg]
	p.painted.add(reg)
}

// best returns the colour for a register that is not taken: that of a friend, or of one in its web, if possible.
func (p *painter) best(reg int, taken []int) int {
	for _, friend := range p.friends[reg] {
		if p.painted.has(friend) && !slices.Contains(taken, p.colors[friend]) {
			return p.colors[friend]
		}
	}
	if wish, isWish := p.wishes[p.webs[reg]]; isWish && !slices.Contains(taken, wish) {
		return wish
	}
	return firstFree(taken)
}

// firstFree returns the least number from 0 on that is not taken.
func firstFree(taken []int) int {
	n := 0
search:
	for ; ; n++ {
		for _, other := range taken {
			if other == n {
				continue search
			}
		}
		break search
	}
	return n
}

// isRight reports whether a list, of any numbers, is a right colouring.
func (w *work) isRight(colors []int) bool {
	if len(colors) != len(w.Regs) || slices.ContainsFunc(colors, func(n int) bool { return n < 0 }) {
		return false
	}
	var args [len(w.kinds)]int
	for i, kind := range w.Regs[:w.Args] {
		if colors[i] != args[kind] {
			return false
		}
		args[kind]++
	}
	for p := range w.places() {
		for _, reg := range p.written {
			for other := range p.crowd().and(w.kinds[w.Regs[reg]]).each() {
				if other != reg && colors[other] == colors[reg] {
					return false
				}
			}
		}
	}
	return true
}

// greatest returns the greatest number that a register of a kind that counts has, or -1.
func (w *work) greatest(colors []int, kind uint8) int {
	n := -1
	for p := range w.places() {
		for _, reg := range p.written {
			if w.Regs[reg] == kind {
				n = max(n, colors[reg])
			}
		}
	}
	return n
}

// isCrowd reports whether a list, of any numbers, has registers of a kind, ascending, each two of which meet.
func (w *work) isCrowd(kind uint8, l []int) bool {
	for i, reg := range l {
		if !w.has(reg) || w.Regs[reg] != kind || i > 0 && l[i-1] >= reg {
			return false
		}
	}
	meet := w.pairs(setOf(l...))
	for i, a := range l {
		for _, b := range l[:i] {
			if !meet[pairOf(a, b)] {
				return false
			}
		}
	}
	return true
}
