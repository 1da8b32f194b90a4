package check

import "argus/api"

// context is what stands around a node.
type context struct {
	parent uint8
	inLoop bool
	canUse func(slot int) bool
}

// with returns the context in which a slot can be used, too.
func (c context) with(slot int) context {
	outer := c.canUse
	c.canUse = func(x int) bool { return x == slot || outer(x) }
	return c
}

// contexts returns the context of each node, for nodes in postorder. The slots of outermost can be used everywhere; declared returns the slot that can be used because of a node, and -1 if there is none.
func contexts(nodes []api.Node, outermost func(slot int) bool, declared func(api.Node) int) []context {
	l := make([]context, len(nodes))
	l[len(l)-1].canUse = outermost
	for i := len(nodes) - 1; i >= 0; i-- {
		n := nodes[i]
		inner := l[i]
		inner.parent = n.Kind
		for j, k := range n.Kids {
			isBody := j == 1
			if isBody && (n.Kind == api.StFor || n.Kind == api.StWhile) {
				inner.inLoop = true
			}
			if isBody && n.Kind == api.StFor || n.Kind == api.StArm {
				inner = inner.with(declared(n))
			}
			l[k] = inner
			// What a statement declares can be used in those behind it.
			if n.Kind == api.StSeq && declares(nodes[k].Kind) {
				inner = inner.with(declared(nodes[k]))
			}
		}
	}
	return l
}

// declares reports whether a kind of statement can make a slot usable in the statements behind it: in a program a StSet does what a StVar does in a source.
func declares(kind uint8) bool { return kind == api.StVar || kind == api.StSet }
