package check

import (
	"slices"

	"argus/api"
	"argus/kind"
)

// body is a routine whose nodes are looked at one behind the other, as they stand in programs.
type body struct {
	*scope
	place
	sig   api.Sig
	slots []string
	rules map[uint8]rule
	here  context
	nodes []api.Node
}

// rule returns the type of a node, which is empty for a statement, or gives up.
type rule func(b *body, n api.Node) string

func newBody(s *scope, at place, sig api.Sig) body {
	return body{scope: s, place: at, sig: sig, rules: rules()}
}

func rules() map[uint8]rule {
	return map[uint8]rule{
		api.ExInt:    (*body).ofInt,
		api.ExBool:   (*body).ofBool,
		api.ExNil:    (*body).ofNil,
		api.ExVar:    (*body).ofVariable,
		api.ExCall:   (*body).ofCall,
		api.ExUp:     (*body).ofUp,
		api.ExDown:   (*body).ofDown,
		api.StSeq:    (*body).anyway,
		api.StSet:    (*body).set,
		api.StDo:     (*body).anyway,
		api.StIf:     (*body).condition,
		api.StWhile:  (*body).condition,
		api.StFor:    (*body).set,
		api.StReturn: (*body).returned,
		api.StYield:  (*body).yielded,
		api.StSignal: (*body).anyway,
		api.StExcept: (*body).anyway,
		api.StWhen:   (*body).anyway,
		api.StBreak:  (*body).broken,
		api.StCase:   (*body).cased,
		api.StArm:    (*body).anyway,
		api.StPut:    (*body).put,
	}
}

// add asks for the rule of a node, and puts the node behind the others; it returns its number.
func (b *body) add(n api.Node) int {
	n.Type = b.rules[n.Kind](b, n)
	b.nodes = append(b.nodes, n)
	return len(b.nodes) - 1
}

// isParameter reports whether a slot is one of the parameters.
func (b *body) isParameter(slot int) bool { return slot < len(b.sig.Args) }

func (b *body) typesOf(kids []int) []string {
	types := make([]string, len(kids))
	for i, k := range kids {
		types[i] = b.nodes[k].Type
	}
	return types
}

// kidIs asks whether the first kid is of a type.
func (b *body) kidIs(n api.Node, t string) {
	b.demand(b.nodes[n.Kids[0]].Type == t, api.ErrType)
}

func (b *body) ofInt(api.Node) string { return "int" }

func (b *body) ofBool(api.Node) string { return "bool" }

func (b *body) ofNil(api.Node) string { return "null" }

func (b *body) ofVariable(n api.Node) string {
	b.demand(b.here.canUse(n.N), api.ErrName)
	return b.slots[n.N]
}

func (b *body) ofCall(n api.Node) string {
	sig, e := b.called(n)
	b.expect(e)
	b.demand(sig.Iter == (b.here.parent == api.StFor), api.ErrIter)
	b.demand(slices.Equal(sig.Args, b.typesOf(n.Kids)), api.ErrArgs)
	isDropped := b.here.parent == api.StDo || b.here.parent == api.StFor
	b.demand(sig.Result != "" || isDropped, api.ErrValue)
	return sig.Result
}

// called returns the signature of what a call calls.
func (b *body) called(n api.Node) (api.Sig, api.Errno) {
	if n.N == 0 {
		return b.operation(n.Var, n.Name)
	}
	name, _ := kind.Base(n.Var)
	arg, _, _ := kind.Arg(n.Var)
	return b.routineOf(name, arg)
}

func (b *body) ofUp(n api.Node) string {
	b.demand(b.own != "", api.ErrUp)
	b.kidIs(n, b.rep)
	return b.own
}

func (b *body) ofDown(n api.Node) string {
	b.demand(b.own != "", api.ErrUp)
	b.kidIs(n, b.own)
	return b.rep
}

// anyway is the rule of nodes that are always right.
func (b *body) anyway(api.Node) string { return "" }

// set asks for the type of a slot that becomes what a kid is, or what it yields.
func (b *body) set(n api.Node) string {
	b.kidIs(n, b.slots[n.N])
	return ""
}

func (b *body) condition(n api.Node) string {
	b.kidIs(n, "bool")
	return ""
}

func (b *body) returned(n api.Node) string {
	gives := !b.sig.Iter && b.sig.Result != ""
	b.demand(gives == (len(n.Kids) > 0), api.ErrReturn)
	if gives {
		b.kidIs(n, b.sig.Result)
	}
	return ""
}

func (b *body) yielded(n api.Node) string {
	b.demand(b.sig.Iter, api.ErrReturn)
	b.kidIs(n, b.sig.Result)
	return ""
}

func (b *body) broken(api.Node) string {
	b.demand(b.here.inLoop, api.ErrBreak)
	return ""
}

func (b *body) cased(n api.Node) string {
	t := b.nodes[n.Kids[0]].Type
	of, _ := kind.Kind(t)
	b.demand(of == api.TypOneof, api.ErrType)
	parts, _ := kind.Parts(t)
	met := map[string]bool{}
	for _, k := range n.Kids[1:] {
		arm := b.nodes[k]
		i := slices.IndexFunc(parts, func(p api.Part) bool { return p.Name == arm.Name })
		b.demand(i >= 0, api.ErrName)
		b.demand(!met[arm.Name], api.ErrTwice)
		b.demand(parts[i].Type == b.slots[arm.N], api.ErrType)
		met[arm.Name] = true
	}
	return ""
}

func (b *body) put(n api.Node) string {
	b.kidIs(n, "int")
	return ""
}
