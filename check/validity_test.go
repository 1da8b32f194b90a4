package check_test

import (
	"slices"
	"strings"

	"argus/api"
	"argus/face"
	"argus/kind"
	"argus/token"
	"argus/tree"
)

// validity looks at programs in a second way: it goes down from the root of each core, and numbers the nodes on the way back.
type validity struct {
	api.Program
	f      api.Face
	rep    string
	hidden map[string]api.Sig
	c      api.Core
	next   int
	memo
}

// slots are those that can be used.
type slots map[int]bool

func (s slots) with(slot int) slots {
	m := slots{slot: true}
	for x := range s {
		m[x] = true
	}
	return m
}

func must(isRight bool) {
	if !isRight {
		panic("not valid")
	}
}

// isPlainlyValid reports whether a program is valid; an index that there is not says no, too.
func isPlainlyValid(p api.Program) (isValid bool) {
	defer func() {
		if recover() != nil {
			isValid = false
		}
	}()
	_, e := face.CheckAll(p.Faces)
	must(e == api.OK && len(p.Reps) == len(p.Faces))
	reps := map[string]string{}
	for i, f := range p.Faces {
		reps[f.Name] = p.Reps[i]
	}
	next, asked := 0, memo{}
	for i, f := range p.Faces {
		must(ends(reps, f.Name))
		from := next
		if f.Kind != api.ModCluster {
			must(p.Cores[next].Owner == "")
			next++
		}
		for f.Kind == api.ModCluster && next < len(p.Cores) && p.Cores[next].Owner == f.Name {
			next++
		}
		v := &validity{Program: p, f: f, rep: p.Reps[i], memo: asked}
		v.face(p.Cores[from:next])
	}
	return next == len(p.Cores)
}

func (v *validity) good(t string) {
	must(v.memo.good(v.Faces, v.f, t) == api.OK)
}

func (v *validity) own() string {
	if v.f.Param {
		return v.f.Name + "[?t]"
	}
	return v.f.Name
}

// face asks for a face with its cores.
func (v *validity) face(l []api.Core) {
	if v.f.Kind == api.ModCluster {
		v.good(v.rep)
	} else {
		must(v.rep == "")
	}
	must(len(l) <= 20)
	v.hidden = map[string]api.Sig{}
	all := map[string]bool{}
	for i, c := range l {
		all[c.Name] = true
		if i < len(v.f.Ops) {
			must(c.Name == v.f.Ops[i].Name && showSig(c.Sig) == showSig(v.f.Ops[i].Sig))
			continue
		}
		must(isSigOfTree(c))
		for _, t := range append(slices.Clone(c.Sig.Args), c.Sig.Result) {
			if t != "" {
				v.good(t)
			}
		}
		v.hidden[c.Name] = c.Sig
	}
	must(len(all) == len(l) && len(l) >= len(v.f.Ops))
	for _, c := range l {
		v.c, v.next = c, 0
		v.core()
	}
}

// isSigOfTree asks layer 2 for a name and a signature.
func isSigOfTree(c api.Core) bool {
	m := api.Module{Face: api.Face{Name: c.Name, Kind: api.ModProc, Ops: []api.Op{{Name: c.Name, Sig: c.Sig}}}}
	if c.Sig.Iter {
		m.Face.Kind = api.ModIter
	}
	params := slices.Repeat([]string{"a"}, len(c.Sig.Args))
	m.Routines = []api.Routine{{Name: c.Name, Sig: c.Sig, Params: params, Nodes: []api.Node{{Kind: api.StSeq}}}}
	return tree.Check(m) == api.OK
}

func (v *validity) core() {
	must(len(v.c.Slots) <= 60 && len(v.c.Nodes) <= 800)
	usable := slots{}
	for i, t := range v.c.Slots {
		v.good(t)
		if i < len(v.c.Sig.Args) {
			must(t == v.c.Sig.Args[i])
			usable[i] = true
		}
	}
	must(len(v.c.Slots) >= len(v.c.Sig.Args))
	v.sequence(len(v.c.Nodes)-1, usable, false)
	must(v.next == len(v.c.Nodes))
}

// number asks for the number that a node has in postorder.
func (v *validity) number(i int) {
	must(i == v.next)
	v.next++
}

// only asks whether a node has no other fields than some, which are written as "N", "Name" and "Var".
func only(n api.Node, fields ...string) {
	must(n.N == 0 || slices.Contains(fields, "N"))
	must(n.Name == "" || slices.Contains(fields, "Name"))
	must(n.Var == "" || slices.Contains(fields, "Var"))
}

// value returns the type of an expression.
func (v *validity) value(i int, usable slots) string { return v.expression(i, usable, false, true) }

func (v *validity) expression(i int, usable slots, isIter, hasResult bool) string {
	n := v.c.Nodes[i]
	var types []string
	for _, k := range n.Kids {
		must(k < i)
		types = append(types, v.value(k, usable))
	}
	v.number(i)
	t := ""
	if n.Kind == api.ExCall {
		t = v.call(n, types, isIter, hasResult)
	} else {
		t = v.typeOf(n, types, usable)
	}
	must(n.Type == t)
	return t
}

func (v *validity) typeOf(n api.Node, types []string, usable slots) string {
	switch n.Kind {
	case api.ExUp:
		must(v.f.Kind == api.ModCluster && len(types) == 1 && types[0] == v.rep)
		only(n)
		return v.own()
	case api.ExDown:
		must(v.f.Kind == api.ModCluster && len(types) == 1 && types[0] == v.own())
		only(n)
		return v.rep
	}
	must(len(types) == 0)
	only(n, "N")
	switch n.Kind {
	case api.ExInt:
		must(n.N >= 0 && n.N <= 1000000000)
		return "int"
	case api.ExBool:
		must(n.N == 0 || n.N == 1)
		return "bool"
	case api.ExNil:
		only(n)
		return "null"
	}
	must(n.Kind == api.ExVar && usable[n.N])
	return v.c.Slots[n.N]
}

func (v *validity) call(n api.Node, types []string, isIter, hasResult bool) string {
	must(kind.Check(n.Var) == api.OK && n.N >= 0 && n.N <= 1)
	sig, e := api.Sig{}, api.OK
	if n.N == 1 {
		must(n.Name == "")
		name, arg, _ := strings.Cut(strings.TrimSuffix(n.Var, "]"), "[")
		must(token.IsName(name))
		if arg != "" {
			v.good(arg)
		}
		sig, e = v.sigOf(v.Faces, v.f, name, arg)
	} else {
		v.good(n.Var)
		hidden, isHidden := v.hidden[n.Name]
		sig, e = v.opOf(v.Faces, v.f, n.Var, n.Name)
		if isHidden && n.Var == v.own() {
			sig, e = hidden, api.OK
		}
	}
	must(e == api.OK && sig.Iter == isIter && slices.Equal(sig.Args, types) && (sig.Result != "" || !hasResult))
	return sig.Result
}

func (v *validity) sequence(i int, usable slots, inLoop bool) {
	n := v.c.Nodes[i]
	must(n.Kind == api.StSeq && n.Type == "")
	only(n)
	for _, k := range n.Kids {
		must(k < i)
		v.statement(k, usable, inLoop)
		if s := v.c.Nodes[k]; s.Kind == api.StSet {
			usable = usable.with(s.N)
		}
	}
	v.number(i)
}

// statement asks for a statement of a StSeq.
func (v *validity) statement(i int, usable slots, inLoop bool) {
	n := v.c.Nodes[i]
	must(n.Type == "")
	for _, k := range n.Kids {
		must(k < i)
	}
	switch n.Kind {
	case api.StSet, api.StFor:
		only(n, "N")
		t := v.c.Slots[n.N]
		if n.Kind == api.StSet {
			must(len(n.Kids) == 1 && v.value(n.Kids[0], usable) == t)
			break
		}
		must(len(n.Kids) == 2 && v.c.Nodes[n.Kids[0]].Kind == api.ExCall)
		must(v.expression(n.Kids[0], usable, true, false) == t)
		v.sequence(n.Kids[1], usable.with(n.N), true)
	case api.StDo:
		only(n)
		must(len(n.Kids) == 1 && v.c.Nodes[n.Kids[0]].Kind == api.ExCall)
		v.expression(n.Kids[0], usable, false, false)
	case api.StIf, api.StWhile:
		only(n)
		must(len(n.Kids) == 2 || len(n.Kids) == 3 && n.Kind == api.StIf)
		must(v.value(n.Kids[0], usable) == "bool")
		for _, k := range n.Kids[1:] {
			v.sequence(k, usable, inLoop || n.Kind == api.StWhile)
		}
	case api.StExcept:
		only(n)
		v.sequence(n.Kids[0], usable, inLoop)
		v.whens(n.Kids[1:], usable, inLoop)
	case api.StCase:
		only(n)
		v.arms(v.value(n.Kids[0], usable), n.Kids[1:], usable, inLoop)
	default:
		v.ending(n, usable, inLoop)
	}
	v.number(i)
}

func (v *validity) whens(kids []int, usable slots, inLoop bool) {
	must(len(kids) > 0)
	for j, k := range kids {
		n := v.c.Nodes[k]
		only(n, "Name")
		must(n.Kind == api.StWhen && n.Type == "" && len(n.Kids) == 1)
		must(token.IsName(n.Name) || n.Name == "" && j == len(kids)-1)
		v.sequence(n.Kids[0], usable, inLoop)
		v.number(k)
	}
}

func (v *validity) arms(t string, kids []int, usable slots, inLoop bool) {
	inner, isOneof := strings.CutPrefix(t, "oneof[")
	must(isOneof && len(kids) > 0)
	parts := map[string]string{}
	for _, x := range divide(strings.TrimSuffix(inner, "]")) {
		name, typ, _ := strings.Cut(x, ":")
		parts[name] = typ
	}
	for _, k := range kids {
		n := v.c.Nodes[k]
		only(n, "Name", "N")
		must(n.Kind == api.StArm && n.Type == "" && len(n.Kids) == 1 && parts[n.Name] == v.c.Slots[n.N])
		delete(parts, n.Name)
		v.sequence(n.Kids[0], usable.with(n.N), inLoop)
		v.number(k)
	}
}

// ending asks for a statement without others inside.
func (v *validity) ending(n api.Node, usable slots, inLoop bool) {
	t := ""
	for _, k := range n.Kids {
		must(t == "")
		t = v.value(k, usable)
	}
	sig := v.c.Sig
	if n.Kind == api.StSignal {
		only(n, "Name")
		must(token.IsName(n.Name) && t == "")
		return
	}
	only(n)
	switch n.Kind {
	case api.StReturn:
		must(t == sig.Result && !sig.Iter || t == "" && sig.Iter)
	case api.StYield:
		must(sig.Iter && t == sig.Result)
	case api.StBreak:
		must(inLoop && t == "")
	case api.StPut:
		must(t == "int")
	default:
		must(false)
	}
}
