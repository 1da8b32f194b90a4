package check

import (
	"iter"

	"argus/api"
	"argus/kind"
)

// reader turns the nodes of a routine into those that stand in programs.
type reader struct {
	body
	slotOf map[string]int
}

// readRoutine returns the core of a routine.
func readRoutine(s *scope, at place, r api.Routine) api.Core {
	x := &reader{body: newBody(s, at, cloneSig(r.Sig)), slotOf: map[string]int{}}
	x.checkSig(r.Name)
	x.declareAll(r)
	x.read(r.Nodes)
	return api.Core{Owner: s.owner(), Name: r.Name, Sig: x.sig, Slots: x.slots, Nodes: x.nodes}
}

// checkSig asks for the types of a routine that the face does not have; those of others were asked with the face.
func (r *reader) checkSig(name string) {
	if _, isHidden := r.hidden[name]; !isHidden {
		return
	}
	for _, t := range typesOf(r.sig) {
		r.expect(r.good(t))
	}
}

// variable is a name with a type.
type variable struct{ name, t string }

// variables yields the nodes that declare a variable, with their numbers.
func variables(nodes []api.Node) iter.Seq2[int, variable] {
	return func(yield func(int, variable) bool) {
		for i, n := range nodes {
			v := variable{n.Name, n.Type}
			switch n.Kind {
			case api.StVar, api.StFor:
			case api.StArm:
				v.name = n.Var
			default:
				continue
			}
			if !yield(i, v) {
				return
			}
		}
	}
}

// declareAll gives slots to the parameters and the variables.
func (r *reader) declareAll(from api.Routine) {
	for i, name := range from.Params {
		r.declare(variable{name, from.Sig.Args[i]})
	}
	for i, v := range variables(from.Nodes) {
		r.node = i
		r.declare(v)
		r.expect(r.good(v.t))
	}
}

func (r *reader) declare(v variable) {
	_, isMet := r.slotOf[v.name]
	r.demand(!isMet, api.ErrTwice)
	r.demand(len(r.slots) < api.MaxSlots, api.ErrLimit)
	r.slotOf[v.name] = len(r.slots)
	r.slots = append(r.slots, v.t)
}

// declared returns the slot that a node declares, and -1 if it declares none.
func (r *reader) declared(n api.Node) int {
	for _, v := range variables([]api.Node{n}) {
		return r.slotOf[v.name]
	}
	return -1
}

// change returns what stands in a program in the place of a node of a source.
type change func(r *reader, n api.Node) api.Node

func changes() map[uint8]change {
	return map[uint8]change{
		api.ExVar:   (*reader).variable,
		api.ExCall:  (*reader).call,
		api.ExOp:    (*reader).operator,
		api.ExIndex: (*reader).index,
		api.ExField: (*reader).field,
		api.StVar:   (*reader).declaration,
		api.StSet:   (*reader).assignment,
		api.StStore: (*reader).storing,
		api.StField: (*reader).fieldStoring,
		api.StFor:   (*reader).loop,
		api.StArm:   (*reader).arm,
	}
}

// read adds nodes; each of them has the numbers of kids that come before it in the source.
func (r *reader) read(nodes []api.Node) {
	around := contexts(nodes, r.isParameter, r.declared)
	changes := changes()
	numbers := make([]int, len(nodes))
	for i, n := range nodes {
		r.node, r.here = i, around[i]
		var kids []int
		for _, k := range n.Kids {
			kids = append(kids, numbers[k])
		}
		n.Kids = kids
		if change, isChanged := changes[n.Kind]; isChanged {
			n = change(r, n)
		}
		numbers[i] = r.add(n)
	}
}

// slot returns the slot of a variable that can be used.
func (r *reader) slot(name string) int {
	slot, isThere := r.slotOf[name]
	r.demand(isThere && r.here.canUse(slot), api.ErrName)
	return slot
}

func (r *reader) variable(n api.Node) api.Node {
	return api.Node{Kind: n.Kind, N: r.slot(n.Name)}
}

func (r *reader) call(n api.Node) api.Node {
	if n.Var != "" {
		r.expect(r.good(n.Var))
		return n
	}
	if n.Type != "" {
		r.expect(r.good(n.Type))
	}
	module, e := kind.Named(n.Name, n.Type)
	r.expect(e)
	return api.Node{Kind: n.Kind, N: 1, Var: module, Kids: n.Kids}
}

// operationOf returns the call of an operation of the first kid's type.
func (r *reader) operationOf(n api.Node, name string) api.Node {
	return api.Node{Kind: api.ExCall, Name: name, Var: r.nodes[n.Kids[0]].Type, Kids: n.Kids}
}

func (r *reader) operator(n api.Node) api.Node {
	return r.operationOf(n, operationWith(n.Name))
}

// operationWith returns the name of the operation that an operator calls.
func operationWith(operator string) string {
	switch operator {
	case "+":
		return "add"
	case "-":
		return "sub"
	case "*":
		return "mul"
	case "/":
		return "div"
	case "<":
		return "lt"
	case "<=":
		return "le"
	case "=":
		return "equal"
	}
	return operator
}

func (r *reader) index(n api.Node) api.Node { return r.operationOf(n, "fetch") }

func (r *reader) field(n api.Node) api.Node { return r.operationOf(n, "get_"+n.Name) }

func (r *reader) declaration(n api.Node) api.Node {
	return api.Node{Kind: api.StSet, N: r.slotOf[n.Name], Kids: n.Kids}
}

func (r *reader) assignment(n api.Node) api.Node {
	return api.Node{Kind: n.Kind, N: r.slot(n.Name), Kids: n.Kids}
}

func (r *reader) storing(n api.Node) api.Node { return r.done(r.operationOf(n, "store")) }

func (r *reader) fieldStoring(n api.Node) api.Node {
	return r.done(r.operationOf(n, "set_"+n.Name))
}

// done adds a call, and returns the statement that it is the kid of.
func (r *reader) done(call api.Node) api.Node {
	r.here.parent = api.StDo
	return api.Node{Kind: api.StDo, Kids: []int{r.add(call)}}
}

func (r *reader) loop(n api.Node) api.Node {
	return api.Node{Kind: n.Kind, N: r.slotOf[n.Name], Kids: n.Kids}
}

func (r *reader) arm(n api.Node) api.Node {
	return api.Node{Kind: n.Kind, Name: n.Name, N: r.slotOf[n.Var], Kids: n.Kids}
}
