package share

import (
	"cmp"
	"slices"
)

// classes returns the coarsest closed partition: flows of one shape are believed to be alike until what they call is found not to be.
func (w *work) classes() [][]int {
	classes := parted(upTo(len(w.flows)), w.byShape)
splitting:
	for {
		var parts [][]int
		byCalls := w.byCalls(classes)
		for _, class := range classes {
			parts = append(parts, parted(class, byCalls)...)
		}
		switch len(parts) {
		case len(classes):
			break splitting
		default:
			classes = parts
		}
	}
	return sorted(classes, slices.Compare)
}

func (w *work) byShape(a, b int) int { return cmp.Compare(w.shapes[a], w.shapes[b]) }

// byCalls returns an order of flows of one shape, by the classes of what they call.
func (w *work) byCalls(classes [][]int) func(a, b int) int {
	of := make([]int, len(w.flows))
	for n, class := range classes {
		for _, i := range class {
			of[i] = n
		}
	}
	byClass := func(a, b int) int { return cmp.Compare(of[a], of[b]) }
	return func(a, b int) int { return slices.CompareFunc(w.calls[a], w.calls[b], byClass) }
}

// isClosed reports whether a partition is closed.
func (w *work) isClosed(classes [][]int) bool {
	byCalls := w.byCalls(classes)
	for _, class := range classes {
		for _, i := range class {
			if w.byShape(class[0], i) != 0 || byCalls(class[0], i) != 0 {
				return false
			}
		}
	}
	return true
}

// isPartition reports whether lists, any ones, are a partition of a list with n items.
func isPartition(classes [][]int, n int) bool {
	isThere := make([]bool, n)
	left, first := n, -1
	for _, class := range classes {
		if len(class) == 0 || class[0] <= first {
			return false
		}
		first = class[0]
		last := -1
		for _, i := range class {
			if i <= last || i >= n || isThere[i] {
				return false
			}
			isThere[i], last = true, i
			left--
		}
	}
	return left == 0
}

// parted cuts a list into parts, in each of which stands, in its old order, what is equal in an order.
func parted[T any](l []T, compare func(a, b T) int) [][]T {
	var parts [][]T
	for rest := sorted(l, compare); len(rest) > 0; {
		n := 1
		for n < len(rest) && compare(rest[0], rest[n]) == 0 {
			n++
		}
		parts = append(parts, rest[:n:n])
		rest = rest[n:]
	}
	return parts
}

// sorted returns a list in an order, in new memory.
func sorted[T any](l []T, compare func(a, b T) int) []T {
	l = slices.Clone(l)
	slices.SortStableFunc(l, compare)
	return l
}

// upTo returns the numbers from 0 to less than n.
func upTo(n int) []int {
	l := make([]int, n)
	for i := range l {
		l[i] = i
	}
	return l
}
