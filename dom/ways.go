package dom

import (
	"iter"

	"argus/api"
)

// search returns a shortest way from a place to one at which it ends, or none.
func search(from int, next func(place int) iter.Seq[int], isEnd func(place int) bool) []int {
	came := map[int]int{from: -1}
	for waiting := []int{from}; len(waiting) > 0; waiting = waiting[1:] {
		now := waiting[0]
		if isEnd(now) {
			return wayTo(now, came)
		}
		for to := range next(now) {
			if _, isMet := came[to]; !isMet {
				came[to] = now
				waiting = append(waiting, to)
			}
		}
	}
	return nil
}

// wayTo returns the way by which a search came to a place.
func wayTo(place int, came map[int]int) []int {
	var back []int
	for ; place >= 0; place = came[place] {
		back = append(back, place)
	}
	return turned(back)
}

// pair finds two ways from one block to another one that have no other block in common. A block has two places, at which
// it is entered and left, so that a way through it takes the step between them. The second search may take back steps of
// the first way.
type pair struct {
	*graph
	from, to int
	taken    map[step]bool
}

// step leads from one place to another one.
type step struct{ from, to int }

func entry(block int) int { return 2 * block }

func exit(block int) int { return 2*block + 1 }

func (p *pair) isEnd(place int) bool { return place == entry(p.to) }

// next yields the places to which a step leads that is not taken, or from which one is taken that leads to a place.
func (p *pair) next(place int) iter.Seq[int] {
	block := place / 2
	return func(yield func(place int) bool) {
		if place == entry(block) {
			p.enter(block, yield)
		} else {
			p.leave(block, yield)
		}
	}
}

func (p *pair) enter(block int, yield func(place int) bool) {
	if !p.taken[step{entry(block), exit(block)}] && !yield(exit(block)) {
		return
	}
	for _, b := range p.ahead[block] {
		if p.taken[step{exit(b), entry(block)}] && !yield(exit(b)) {
			return
		}
	}
}

func (p *pair) leave(block int, yield func(place int) bool) {
	if p.taken[step{entry(block), exit(block)}] && !yield(entry(block)) {
		return
	}
	for _, b := range p.behind[block] {
		if !p.taken[step{exit(block), entry(b)}] && !yield(entry(b)) {
			return
		}
	}
}

// takeWay finds one way more.
func (p *pair) takeWay() {
	way := search(exit(p.from), p.next, p.isEnd)
	for i := range len(way) - 1 {
		s := step{way[i], way[i+1]}
		if back := (step{s.to, s.from}); p.taken[back] {
			delete(p.taken, back)
		} else {
			p.taken[s] = true
		}
	}
}

// ways returns the ways that were taken.
func (p *pair) ways() [][]int {
	var l [][]int
	for _, b := range p.behind[p.from] {
		if p.taken[step{exit(p.from), entry(b)}] {
			l = append(l, p.follow(b))
		}
	}
	return l
}

// follow returns the way that begins with a block behind the first one.
func (p *pair) follow(block int) []int {
	way := []int{p.from, block}
	for i := 1; way[i] != p.to; i++ {
		for _, b := range p.behind[way[i]] {
			if p.taken[step{exit(way[i]), entry(b)}] {
				way = append(way, b)
				break
			}
		}
	}
	return way
}

// twoWays returns two ways from the parent of a block to it. There are two if no single step leads there: a block on all
// ways would dominate it, too.
func (t *tree) twoWays(block int) (one, two []int) {
	from := t.parent[block]
	if t.isBehind(block, from) {
		return []int{from, block}, []int{from, block}
	}
	p := &pair{graph: t.graph, from: from, to: block, taken: map[step]bool{}}
	p.takeWay()
	p.takeWay()
	l := p.ways()
	return l[0], l[1]
}

// Prove returns a proof of the parents of all blocks.
func Prove(f api.Flow) (api.Doms, api.Errno) {
	t, e := newTree(f)
	if e != api.OK {
		return api.Doms{}, e
	}
	d := api.Doms{Parent: t.parent, One: make([][]int, len(t.Blocks)), Two: make([][]int, len(t.Blocks))}
	for b := range t.counting() {
		if b != 0 {
			d.One[b], d.Two[b] = t.twoWays(b)
		}
	}
	return d, api.OK
}
