package flow

import (
	"iter"
	"slices"

	"argus/api"
)

// targets yields the blocks to which an end may lead, To first; one may be yielded more than once.
func targets(e *api.End) iter.Seq[int] {
	s := endShapeOf(e.Kind)
	return func(yield func(block int) bool) {
		if s.to && !yield(e.To) || s.orElse && !yield(e.Else) || !s.handles {
			return
		}
		for _, w := range e.Whens {
			if !yield(w.To) {
				return
			}
		}
		if e.Others >= 0 {
			yield(e.Others)
		}
	}
}

// behind returns the blocks behind the one with an end, ascending and each once.
func behind(e *api.End) []int {
	return slices.Compact(slices.Sorted(targets(e)))
}

// aheads returns, for all blocks of a flow, those ahead of it, ascending and each once.
func aheads(f *api.Flow) [][]int {
	ahead := make([][]int, len(f.Blocks))
	for i := range f.Blocks {
		for to := range targets(&f.Blocks[i].End) {
			if last := len(ahead[to]) - 1; last < 0 || ahead[to][last] != i {
				ahead[to] = append(ahead[to], i)
			}
		}
	}
	return ahead
}
