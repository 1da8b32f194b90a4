package dom

import (
	"slices"

	"argus/api"
)

// Frontier returns, for each block, the blocks behind those that it dominates that it does not dominate strictly.
func Frontier(f api.Flow) ([][]int, api.Errno) {
	t, e := newTree(f)
	if e != api.OK {
		return nil, e
	}
	l := make([][]int, len(t.Blocks))
	for b := range t.Blocks {
		for from := range t.before(b) {
			for a := from; a != t.parent[b] && !endsWith(l[a], b); a = t.parent[a] {
				l[a] = append(l[a], b)
			}
		}
	}
	return l, api.OK
}

// endsWith tells where another way up was already gone for the same block.
func endsWith(l []int, block int) bool { return len(l) > 0 && l[len(l)-1] == block }

// Loops returns all loops, by ascending heads.
func Loops(f api.Flow) ([]api.Loop, api.Errno) {
	t, e := newTree(f)
	if e != api.OK {
		return nil, e
	}
	var l []api.Loop
	for b := range t.Blocks {
		if body := t.body(b); len(body) > 0 {
			l = append(l, api.Loop{Head: b, Body: body})
		}
	}
	return l, api.OK
}

// body returns the blocks of the loop with a head, ascending: none if it is not the head of a loop.
func (t *tree) body(head int) []int {
	var body []int
	isIn := make([]bool, len(t.Blocks))
	add := func(block int) {
		if !isIn[block] {
			isIn[block] = true
			body = append(body, block)
		}
	}
	for b := range t.before(head) {
		if t.isAbove(head, b) {
			add(head)
			add(b)
		}
	}
	for i := 1; i < len(body); i++ {
		for b := range t.before(body[i]) {
			add(b)
		}
	}
	slices.Sort(body)
	return body
}

// Reducible reports whether each circle of blocks that count has one that dominates the others.
func Reducible(f api.Flow) (bool, api.Errno) {
	t, e := newTree(f)
	if e != api.OK {
		return false, e
	}
	isDone := make([]bool, len(t.Blocks))
	for b := range t.counting() {
		for from := range t.before(b) {
			if !isDone[from] && !t.isAbove(b, from) {
				return false, api.OK
			}
		}
		isDone[b] = true
	}
	return true, api.OK
}
