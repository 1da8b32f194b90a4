package check_test

import (
	"slices"
	"strings"

	"argus/api"
	"argus/face"
	"argus/kind"
	"argus/token"
	"argus/tree"
)

// plain checks modules in a second way: it goes down from the root of each body, with the variables that can be used in a map, and asks all faces each time.
type plain struct {
	faces           []api.Face
	module, routine int
	m               api.Module
	r               api.Routine
	slots           map[string]int
	types           []string
	out             []api.Node
	memo
}

// memo has what was found when all faces were looked at, which is slow.
type memo map[string]any

// ask asks once alone; question tells what is asked, but for the module, which matters for open types alone.
func ask[T any](m memo, module, question string, find func() T) T {
	if strings.Contains(question, "?") {
		question = module + " " + question
	}
	if _, isAsked := m[question]; !isAsked {
		m[question] = find()
	}
	return m[question].(T)
}

// found is a signature, or an error.
type found struct {
	sig api.Sig
	e   api.Errno
}

func (m memo) good(l []api.Face, f api.Face, t string) api.Errno {
	return ask(m, f.Name, "good "+t, func() api.Errno { return face.Good(l, f.Needs, f.Param, t) })
}

func (m memo) opOf(l []api.Face, f api.Face, t, name string) (api.Sig, api.Errno) {
	x := ask(m, f.Name, "operation "+t+"$"+name, func() found {
		sig, e := face.OpOf(l, f.Needs, t, name)
		return found{sig, e}
	})
	return x.sig, x.e
}

func (m memo) sigOf(l []api.Face, f api.Face, name, arg string) (api.Sig, api.Errno) {
	x := ask(m, f.Name, "routine "+name+"{"+arg, func() found {
		sig, e := face.SigOf(l, f.Needs, name, arg)
		return found{sig, e}
	})
	return x.sig, x.e
}

// around is what can be used at a node, and whether it stands in a loop.
type around struct {
	usable map[string]bool
	inLoop bool
}

func (a around) with(name string) around {
	m := map[string]bool{name: true}
	for x := range a.usable {
		m[x] = true
	}
	return around{m, a.inLoop}
}

func (a around) looped() around { return around{a.usable, true} }

// give ends the check unless something is right at a node.
func (p *plain) give(isRight bool, node int, e api.Errno) {
	if !isRight {
		panic(api.Fault{Err: e, At: 8000*p.module + 400*p.routine + node})
	}
}

func plainCheck(l []api.Module) (out api.Program, f api.Fault) {
	defer func() {
		if x := recover(); x != nil {
			out, f = api.Program{}, x.(api.Fault)
		}
	}()
	if len(l) > 20 {
		return api.Program{}, api.Fault{Err: api.ErrLimit}
	}
	p := &plain{memo: memo{}}
	order := p.modules(l)
	p.reps(l)
	cores := make([][]api.Core, len(l))
	for i, m := range l {
		for j, r := range m.Routines {
			p.module, p.routine, p.m, p.r = i, j, m, r
			cores[i] = append(cores[i], p.core())
		}
	}
	for _, i := range order {
		out.Faces = append(out.Faces, l[i].Face)
		out.Reps = append(out.Reps, l[i].Rep)
		out.Cores = append(out.Cores, cores[i]...)
	}
	return out, api.Fault{}
}

// modules asks for the modules by themselves; it returns their indices in the order of their names.
func (p *plain) modules(l []api.Module) []int {
	for i, m := range l {
		p.module = i
		p.give(tree.Check(m) == api.OK, 0, api.ErrTree)
	}
	var order []int
	for i, m := range l {
		p.module = i
		for _, x := range l[:i] {
			p.give(x.Face.Name != m.Face.Name, 0, api.ErrTwice)
		}
		order = append(order, i)
	}
	slices.SortFunc(order, func(a, b int) int { return strings.Compare(l[a].Face.Name, l[b].Face.Name) })
	for _, i := range order {
		p.faces = append(p.faces, l[i].Face)
	}
	if at, e := face.CheckAll(p.faces); e != api.OK {
		p.module = order[at]
		p.give(false, 0, e)
	}
	return order
}

func (p *plain) reps(l []api.Module) {
	reps := map[string]string{}
	for i, m := range l {
		reps[m.Face.Name] = m.Rep
		if m.Face.Kind != api.ModCluster {
			continue
		}
		p.module = i
		e := face.Good(p.faces, m.Face.Needs, m.Face.Param, m.Rep)
		p.give(e == api.OK, 0, e)
	}
	for i, m := range l {
		p.module = i
		p.give(ends(reps, m.Face.Name), 0, api.ErrRep)
	}
}

// ends reports whether a chain has an end: one that is longer than there are clusters has none.
func ends(reps map[string]string, name string) bool {
	for range 25 {
		front, _, _ := strings.Cut(reps[name], "[")
		if !token.IsName(front) {
			return true
		}
		name = front
	}
	return false
}

func (p *plain) good(t string) api.Errno { return p.memo.good(p.faces, p.m.Face, t) }

func (p *plain) own() string {
	if p.m.Face.Param {
		return p.m.Face.Name + "[?t]"
	}
	return p.m.Face.Name
}

func (p *plain) core() api.Core {
	p.slots, p.types, p.out = map[string]int{}, nil, nil
	if p.routine >= len(p.m.Face.Ops) {
		for _, t := range append(slices.Clone(p.r.Sig.Args), p.r.Sig.Result) {
			e := p.good(t)
			p.give(t == "" || e == api.OK, 0, e)
		}
	}
	usable := around{}
	for i, name := range p.r.Params {
		p.declare(name, p.r.Sig.Args[i], 0)
		usable = usable.with(name)
	}
	for i, n := range p.r.Nodes {
		switch n.Kind {
		case api.StVar, api.StFor:
			p.declare(n.Name, n.Type, i)
		case api.StArm:
			p.declare(n.Var, n.Type, i)
		default:
			continue
		}
		e := p.good(n.Type)
		p.give(e == api.OK, i, e)
	}
	p.statement(len(p.r.Nodes)-1, usable)
	owner := ""
	if p.m.Face.Kind == api.ModCluster {
		owner = p.m.Face.Name
	}
	return api.Core{Owner: owner, Name: p.r.Name, Sig: p.r.Sig, Slots: p.types, Nodes: p.out}
}

func (p *plain) declare(name, t string, node int) {
	_, isThere := p.slots[name]
	p.give(!isThere, node, api.ErrTwice)
	p.give(len(p.slots) < 60, node, api.ErrLimit)
	p.slots[name] = len(p.types)
	p.types = append(p.types, t)
}

// put adds a node, and returns its number.
func (p *plain) put(n api.Node) int {
	p.out = append(p.out, n)
	return len(p.out) - 1
}

func (p *plain) slot(name string, node int, a around) int {
	p.give(a.usable[name], node, api.ErrName)
	return p.slots[name]
}

// value adds an expression, and returns its number and its type.
func (p *plain) value(i int, a around) (int, string) { return p.expression(i, a, false, true) }

// expression adds an expression that is an iterator or not, and has to have a result or not.
func (p *plain) expression(i int, a around, isIter, hasResult bool) (int, string) {
	n := p.r.Nodes[i]
	var kids []int
	var types []string
	for _, k := range n.Kids {
		kid, t := p.value(k, a)
		kids, types = append(kids, kid), append(types, t)
	}
	out := api.Node{Kind: n.Kind, N: n.N, Kids: kids}
	switch n.Kind {
	case api.ExInt:
		out.Type = "int"
	case api.ExBool:
		out.Type = "bool"
	case api.ExNil:
		out.Type = "null"
	case api.ExVar:
		out.N = p.slot(n.Name, i, a)
		out.Type = p.types[out.N]
	case api.ExUp, api.ExDown:
		p.give(p.m.Face.Kind == api.ModCluster, i, api.ErrUp)
		from, to := p.m.Rep, p.own()
		if n.Kind == api.ExDown {
			from, to = to, from
		}
		p.give(types[0] == from, i, api.ErrType)
		out.Type = to
	default:
		return p.call(i, kids, types, isIter, hasResult)
	}
	return p.put(out), out.Type
}

// names has the operations of operators, and of what is written like one.
var names = map[string]string{"+": "add", "-": "sub", "*": "mul", "/": "div", "mod": "mod", "<": "lt", "<=": "le", "=": "equal", "and": "and", "or": "or", "not": "not"}

// call adds a call, and what is one in a program.
func (p *plain) call(i int, kids []int, types []string, isIter, hasResult bool) (int, string) {
	n := p.r.Nodes[i]
	out := api.Node{Kind: api.ExCall, Kids: kids}
	sig, e := api.Sig{}, api.OK
	switch {
	case n.Kind == api.ExCall && n.Var == "":
		sig, out.Var = p.routineCalled(i)
		out.N = 1
	case n.Kind == api.ExCall:
		e = p.good(n.Var)
		p.give(e == api.OK, i, e)
		out.Var, out.Name = n.Var, n.Name
	case n.Kind == api.ExOp:
		out.Var, out.Name = types[0], names[n.Name]
	case n.Kind == api.ExIndex:
		out.Var, out.Name = types[0], "fetch"
	case n.Kind == api.ExField:
		out.Var, out.Name = types[0], "get_"+n.Name
	case n.Kind == api.StStore:
		out.Var, out.Name = types[0], "store"
	case n.Kind == api.StField:
		out.Var, out.Name = types[0], "set_"+n.Name
	}
	if out.N == 0 {
		sig, e = p.operation(out.Var, out.Name)
		p.give(e == api.OK, i, e)
	}
	p.give(sig.Iter == isIter, i, api.ErrIter)
	p.give(len(sig.Args) == len(types), i, api.ErrArgs)
	for j, t := range sig.Args {
		p.give(t == types[j], i, api.ErrArgs)
	}
	p.give(!hasResult || sig.Result != "", i, api.ErrValue)
	out.Type = sig.Result
	return p.put(out), sig.Result
}

// routineCalled returns the signature of a module that is called, and what stands for it in a program.
func (p *plain) routineCalled(i int) (api.Sig, string) {
	n := p.r.Nodes[i]
	whole := n.Name
	if n.Type != "" {
		e := p.good(n.Type)
		p.give(e == api.OK, i, e)
		whole += "[" + n.Type + "]"
		e = kind.Check(whole)
		p.give(e == api.OK, i, e)
	}
	sig, e := p.sigOf(p.faces, p.m.Face, n.Name, n.Type)
	p.give(e == api.OK, i, e)
	return sig, whole
}

func (p *plain) operation(t, name string) (api.Sig, api.Errno) {
	if p.m.Face.Kind == api.ModCluster && t == p.own() {
		for _, r := range p.m.Routines[len(p.m.Face.Ops):] {
			if r.Name == name {
				return r.Sig, api.OK
			}
		}
	}
	return p.opOf(p.faces, p.m.Face, t, name)
}

// sequence adds the statements of a StSeq.
func (p *plain) sequence(i int, a around) int {
	var kids []int
	for _, k := range p.r.Nodes[i].Kids {
		kids = append(kids, p.statement(k, a))
		if n := p.r.Nodes[k]; n.Kind == api.StVar {
			a = a.with(n.Name)
		}
	}
	return p.put(api.Node{Kind: api.StSeq, Kids: kids})
}

// statement adds a statement, and returns its number.
func (p *plain) statement(i int, a around) int {
	n := p.r.Nodes[i]
	out := api.Node{Kind: n.Kind, Kids: []int{}}
	kid := func(j int) string {
		k, t := p.value(n.Kids[j], a)
		out.Kids = append(out.Kids, k)
		return t
	}
	part := func(j int, a around) { out.Kids = append(out.Kids, p.statement(n.Kids[j], a)) }
	switch n.Kind {
	case api.StSeq:
		return p.sequence(i, a)
	case api.StVar, api.StSet:
		t := kid(0)
		if n.Kind == api.StSet {
			p.slot(n.Name, i, a)
		}
		out.Kind, out.N = api.StSet, p.slots[n.Name]
		p.give(t == p.types[out.N], i, api.ErrType)
	case api.StStore, api.StField:
		var types []string
		for j := range n.Kids {
			types = append(types, kid(j))
		}
		call, _ := p.call(i, out.Kids, types, false, false)
		out = api.Node{Kind: api.StDo, Kids: []int{call}}
	case api.StDo:
		call, _ := p.expression(n.Kids[0], a, false, false)
		out.Kids = []int{call}
	case api.StIf, api.StWhile:
		t := kid(0)
		if n.Kind == api.StWhile {
			a = a.looped()
		}
		for j := range n.Kids[1:] {
			part(j+1, a)
		}
		p.give(t == "bool", i, api.ErrType)
	case api.StFor:
		call, t := p.expression(n.Kids[0], a, true, false)
		out.Kids = []int{call}
		part(1, a.with(n.Name).looped())
		out.N = p.slots[n.Name]
		p.give(t == n.Type, i, api.ErrType)
	case api.StCase:
		t := kid(0)
		for j := range n.Kids[1:] {
			part(j+1, a)
		}
		p.arms(i, t)
	case api.StArm:
		part(0, a.with(n.Var))
		out.Name, out.N = n.Name, p.slots[n.Var]
	case api.StSignal, api.StExcept, api.StWhen:
		out.Name = n.Name
		for j := range n.Kids {
			part(j, a)
		}
	case api.StReturn, api.StYield, api.StBreak, api.StPut:
		t := ""
		if len(n.Kids) > 0 {
			t = kid(0)
		}
		p.ending(i, t, a)
	}
	return p.put(out)
}

// ending asks for a return, a yield, a break or a put with a type.
func (p *plain) ending(i int, t string, a around) {
	sig := p.r.Sig
	switch p.r.Nodes[i].Kind {
	case api.StReturn:
		want := sig.Result
		if sig.Iter {
			want = ""
		}
		p.give((want == "") == (t == ""), i, api.ErrReturn)
		p.give(t == want, i, api.ErrType)
	case api.StYield:
		p.give(sig.Iter, i, api.ErrReturn)
		p.give(t == sig.Result, i, api.ErrType)
	case api.StBreak:
		p.give(a.inLoop, i, api.ErrBreak)
	case api.StPut:
		p.give(t == "int", i, api.ErrType)
	}
}

// arms asks for the arms of a case.
func (p *plain) arms(i int, t string) {
	inner, isOneof := strings.CutPrefix(t, "oneof[")
	p.give(isOneof, i, api.ErrType)
	left := map[string]string{}
	all := map[string]bool{}
	for _, x := range divide(strings.TrimSuffix(inner, "]")) {
		name, typ, _ := strings.Cut(x, ":")
		left[name], all[name] = typ, true
	}
	for _, k := range p.r.Nodes[i].Kids[1:] {
		arm := p.r.Nodes[k]
		p.give(all[arm.Name], i, api.ErrName)
		p.give(left[arm.Name] != "", i, api.ErrTwice)
		p.give(left[arm.Name] == arm.Type, i, api.ErrType)
		delete(left, arm.Name)
	}
}

// divide divides a text at its outermost commas.
func divide(s string) []string {
	var l []string
	open := 0
	for _, part := range strings.Split(s, ",") {
		if open > 0 {
			l[len(l)-1] += "," + part
		} else if s != "" {
			l = append(l, part)
		}
		open += strings.Count(part, "[") - strings.Count(part, "]")
	}
	return l
}
