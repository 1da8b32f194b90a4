package share

import "iter"

// pair is two flows that are looked at side by side.
type pair struct{ one, two int }

// swapped returns the pair the other way round: what tells one apart tells the other apart, too.
func (p pair) swapped() pair { return pair{p.two, p.one} }

func (w *work) haveOneShape(p pair) bool { return w.shapes[p.one] == w.shapes[p.two] }

// follow returns what two flows of one shape call at one place.
func (w *work) follow(p pair, place int) pair {
	return pair{w.calls[p.one][place], w.calls[p.two][place]}
}

// ways yields pairs to which ways lead from one, each with its way: a shorter one comes first, of several the least one, and none
// comes behind a pair that has not one shape. Pairs to which an earlier way led, and those of a flow with itself, are left out.
func (w *work) ways(from pair) iter.Seq2[[]int, pair] {
	type arrival struct {
		pair
		way []int
	}
	return func(yield func(way []int, to pair) bool) {
		seen := map[pair]bool{from: true}
		for waiting := []arrival{{pair: from}}; len(waiting) > 0; waiting = waiting[1:] {
			now := waiting[0]
			if !yield(now.way, now.pair) {
				return
			}
			if !w.haveOneShape(now.pair) {
				continue
			}
			for place := range w.calls[now.one] {
				to := w.follow(now.pair, place)
				if to == to.swapped() || seen[to] || seen[to.swapped()] {
					continue
				}
				seen[to] = true
				way := now.way[:len(now.way):len(now.way)]
				waiting = append(waiting, arrival{to, append(way, place)})
			}
		}
	}
}

// apart returns the least of the shortest ways that tell two flows apart, and whether there is one.
func (w *work) apart(p pair) ([]int, bool) {
	for way, to := range w.ways(p) {
		if !w.haveOneShape(to) {
			return way, true
		}
	}
	return nil, false
}

// tellsApart reports whether a list of numbers, any ones, tells two flows apart.
func (w *work) tellsApart(p pair, way []int) bool {
	for _, place := range way {
		if !w.haveOneShape(p) || place < 0 || place >= len(w.calls[p.one]) {
			return false
		}
		p = w.follow(p, place)
	}
	return !w.haveOneShape(p)
}
