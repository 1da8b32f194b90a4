package tree

import "argus/api"

// Size returns how many nodes the tree of a node has.
func Size(l []api.Node, i int) (int, api.Errno) {
	if e := checkNode(l, i); e != api.OK {
		return 0, e
	}
	return i - firstOf(l, i) + 1, api.OK
}

// Parents returns the node of which each one is a kid, and -1 for the root.
func Parents(l []api.Node) ([]int, api.Errno) {
	if e := CheckNodes(l); e != api.OK {
		return nil, e
	}
	parents := make([]int, len(l))
	for i, n := range l {
		parents[i] = -1
		for _, k := range n.Kids {
			parents[k] = i
		}
	}
	return parents, api.OK
}

// Subtree returns the nodes of the tree of a node.
func Subtree(l []api.Node, i int) ([]api.Node, api.Errno) {
	if e := checkNode(l, i); e != api.OK {
		return nil, e
	}
	first := firstOf(l, i)
	var out []api.Node
	for n := range moved(l[first:i+1], first, -first) {
		out = append(out, n)
	}
	return out, api.OK
}

// Graft returns the body in which the tree of a node is replaced by other nodes.
func Graft(l []api.Node, i int, by []api.Node) ([]api.Node, api.Errno) {
	if e := checkNode(l, i); e != api.OK {
		return nil, e
	}
	if len(by) > api.MaxNodes || !isPostorder(by) {
		return nil, api.ErrTree
	}
	first := firstOf(l, i)
	var out []api.Node
	for n := range moved(l[:first], 0, 0) {
		out = append(out, n)
	}
	for n := range moved(by, 0, first) {
		out = append(out, n)
	}
	for n := range moved(l[i+1:], i, len(out)-1-i) {
		out = append(out, n)
	}
	if e := CheckNodes(out); e != api.OK {
		return nil, e
	}
	return out, api.OK
}

// checkNode asks for a body that has a node.
func checkNode(l []api.Node, i int) api.Errno {
	if e := CheckNodes(l); e != api.OK {
		return e
	}
	if i < 0 || i >= len(l) {
		return api.ErrArg
	}
	return api.OK
}

// firstOf returns the first node of the tree of a node.
func firstOf(l []api.Node, i int) int {
	for len(l[i].Kids) > 0 {
		i = l[i].Kids[0]
	}
	return i
}

// moved yields nodes whose kids from a number on have moved by a distance.
func moved(l []api.Node, from, distance int) func(yield func(api.Node) bool) {
	return func(yield func(api.Node) bool) {
		for _, n := range l {
			var kids []int
			for _, k := range n.Kids {
				if k >= from {
					k += distance
				}
				kids = append(kids, k)
			}
			n.Kids = kids
			if !yield(n) {
				return
			}
		}
	}
}
