package mean_test

import (
	"iter"
	"slices"
	"strings"

	"argus/api"
	"argus/sample"
)

// plain runs programs in a second way: objects are pointers, iterators are coroutines, and all that leaves something is a panic.
type plain struct {
	api.Program
	steps, allowed int
	objects        []*object
	put            []int
}

type object struct {
	at, kind, tag int
	vals          []cell
}

// cell is a value: object is there for references, which have no n.
type cell struct {
	kind   uint8
	n      int
	object *object
}

type (
	plainSpent   struct{}
	plainStop    struct{}
	plainBreak   struct{}
	plainSignal  struct{ name string }
	plainReturns struct{ v cell }
)

// activation is a routine that is run in the second way.
type activation struct {
	*plain
	core  api.Core
	arg   string
	slots map[int]cell
	depth int
	gives func(cell) bool
}

// caught runs something, and returns what it panicked with, if that is a T.
func caught[T any](do func()) (thrown T, is bool) {
	defer func() {
		if x := recover(); x != nil {
			if thrown, is = x.(T); !is {
				panic(x)
			}
		}
	}()
	do()
	return thrown, false
}

func newPlain(p api.Program, h []api.Obj, allowed int) *plain {
	x := &plain{Program: p, allowed: allowed}
	for i, o := range h {
		x.objects = append(x.objects, &object{at: i, kind: int(o.Kind), tag: o.Tag})
	}
	for i, o := range h {
		for _, v := range o.Vals {
			x.objects[i].vals = append(x.objects[i].vals, x.cell(v))
		}
	}
	return x
}

func (x *plain) cell(v api.Value) cell {
	if v.Kind == api.ValRef {
		return cell{kind: v.Kind, object: x.objects[v.N]}
	}
	return cell{kind: v.Kind, n: v.N}
}

func (c cell) value() api.Value {
	if c.kind == api.ValRef {
		return api.Value{Kind: c.kind, N: c.object.at}
	}
	return api.Value{Kind: c.kind, N: c.n}
}

func (x *plain) heap() []api.Obj {
	var h []api.Obj
	for _, o := range x.objects {
		out := api.Obj{Kind: uint8(o.kind), Tag: o.tag}
		for _, c := range o.vals {
			out.Vals = append(out.Vals, c.value())
		}
		h = append(h, out)
	}
	return h
}

// plainRun runs a routine that a right reference names; it yields at most so many values, if it is an iterator.
func plainRun(p api.Program, h []api.Obj, ref string, args []api.Value, allowed, most int) ([]api.Value, api.Ran, []api.Obj) {
	x := newPlain(p, h, allowed)
	var cells []cell
	for _, v := range args {
		cells = append(cells, x.cell(v))
	}
	of, name, isOp := strings.Cut(ref, "$")
	owner, arg, _ := strings.Cut(strings.TrimSuffix(of, "]"), "[")
	if !isOp {
		owner, name = "", owner
	}
	var yields []api.Value
	ran := api.Ran{Kind: api.RanDone}
	_, isSpent := caught[plainSpent](func() {
		s, isSignal := caught[plainSignal](func() {
			a := x.activate(owner, name, arg, cells, 1)
			if !a.core.Sig.Iter {
				ran.Value = a.procedure().value()
				return
			}
			for c := range a.iterator() {
				yields = append(yields, c.value())
				if len(yields) == most {
					break
				}
			}
		})
		if isSignal {
			ran = api.Ran{Kind: api.RanSignal, Signal: s.name}
		}
	})
	if isSpent {
		ran = api.Ran{Kind: api.RanSpent}
	}
	ran.Put, ran.Steps = x.put, x.steps
	return yields, ran, x.heap()
}

func (x *plain) activate(owner, name, arg string, args []cell, depth int) *activation {
	if depth > 400 {
		panic(plainSpent{})
	}
	core, e := coreOf(x.Program, owner, name)
	if !e {
		panic("no core " + owner + "$" + name)
	}
	a := &activation{plain: x, core: core, arg: arg, slots: map[int]cell{}, depth: depth}
	for i, c := range args {
		a.slots[i] = c
	}
	return a
}

func coreOf(p api.Program, owner, name string) (api.Core, bool) {
	for _, c := range p.Cores {
		if c.Owner == owner && c.Name == name {
			return c, true
		}
	}
	return api.Core{}, false
}

// leave turns a signal of the body into that of the call.
func (a *activation) leave(body func()) {
	if s, is := caught[plainSignal](body); is {
		if !slices.Contains(a.core.Sig.Signals, s.name) {
			s.name = "failure"
		}
		panic(s)
	}
}

func (a *activation) procedure() cell {
	var result plainReturns
	returned := false
	a.leave(func() {
		result, returned = caught[plainReturns](func() { a.statement(len(a.core.Nodes) - 1) })
	})
	if !returned && a.core.Sig.Result != "" {
		panic(plainSignal{"failure"})
	}
	return result.v
}

func (a *activation) iterator() iter.Seq[cell] {
	return func(yield func(cell) bool) {
		a.gives = yield
		caught[plainStop](func() {
			a.leave(func() {
				caught[plainReturns](func() { a.statement(len(a.core.Nodes) - 1) })
			})
		})
	}
}

func (a *activation) begin() {
	if a.steps >= a.allowed {
		panic(plainSpent{})
	}
	a.steps++
}

// put in: a type with the argument, which has to be one still.
func (a *activation) typed(t string) string {
	t = strings.ReplaceAll(t, "?t", a.arg)
	depth, most := 0, 0
	for _, c := range t {
		if c == '[' {
			depth++
		}
		if c == ']' {
			depth--
		}
		most = max(most, depth)
	}
	if len(t) > 100 || most+1 > 6 {
		panic(plainSpent{})
	}
	return t
}

func (a *activation) kids(n api.Node) []cell {
	var l []cell
	for _, k := range n.Kids {
		l = append(l, a.expression(k))
	}
	return l
}

func (a *activation) expression(i int) cell {
	a.begin()
	n := a.core.Nodes[i]
	switch n.Kind {
	case api.ExInt:
		return cell{kind: api.ValInt, n: n.N}
	case api.ExBool:
		return cell{kind: api.ValBool, n: n.N}
	case api.ExNil:
		return cell{kind: api.ValNil}
	case api.ExVar:
		c, isSet := a.slots[n.N]
		if !isSet {
			panic("a slot without a value")
		}
		return c
	case api.ExUp, api.ExDown:
		return a.expression(n.Kids[0])
	case api.ExCall:
		args := a.kids(n)
		if f := a.called(n, args); f != nil {
			return f.procedure()
		}
		return a.operation(a.typed(n.Var), n.Name, args)
	}
	panic("no expression")
}

// called returns the routine that a call calls, or nil if it is built in.
func (a *activation) called(n api.Node, args []cell) *activation {
	t := a.typed(n.Var)
	front, inner, _ := strings.Cut(strings.TrimSuffix(t, "]"), "[")
	if n.N == 1 {
		return a.activate("", front, inner, args, a.depth+1)
	}
	if slices.Contains([]string{"int", "bool", "null", "array", "record", "oneof"}, front) {
		return nil
	}
	return a.activate(front, n.Name, inner, args, a.depth+1)
}

func (a *activation) statement(i int) {
	a.begin()
	n := a.core.Nodes[i]
	switch n.Kind {
	case api.StSeq, api.StWhen, api.StArm:
		for _, k := range n.Kids {
			a.statement(k)
		}
	case api.StSet:
		a.slots[n.N] = a.expression(n.Kids[0])
	case api.StDo:
		a.expression(n.Kids[0])
	case api.StPut:
		c := a.expression(n.Kids[0])
		a.put = append(a.put, c.n)
	case api.StIf:
		if a.expression(n.Kids[0]).n == 1 {
			a.statement(n.Kids[1])
		} else if len(n.Kids) == 3 {
			a.statement(n.Kids[2])
		}
	case api.StWhile:
		caught[plainBreak](func() {
			for a.expression(n.Kids[0]).n == 1 {
				a.statement(n.Kids[1])
			}
		})
	case api.StFor:
		caught[plainBreak](func() { a.loop(n) })
	case api.StReturn:
		var l plainReturns
		for _, c := range a.kids(n) {
			l.v = c
		}
		panic(l)
	case api.StYield:
		if c := a.expression(n.Kids[0]); !a.gives(c) {
			panic(plainStop{})
		}
	case api.StSignal:
		panic(plainSignal{n.Name})
	case api.StBreak:
		panic(plainBreak{})
	case api.StExcept:
		a.except(n)
	case api.StCase:
		a.tagcase(n)
	default:
		panic("no statement")
	}
}

func (a *activation) loop(n api.Node) {
	a.begin()
	over := a.core.Nodes[n.Kids[0]]
	args := a.kids(over)
	next, stop := iter.Pull(a.called(over, args).iterator())
	defer stop()
	for c, isThere := next(); isThere; c, isThere = next() {
		a.slots[n.N] = c
		a.statement(n.Kids[1])
	}
}

func (a *activation) except(n api.Node) {
	s, is := caught[plainSignal](func() { a.statement(n.Kids[0]) })
	if !is {
		return
	}
	for _, k := range n.Kids[1:] {
		if name := a.core.Nodes[k].Name; name == s.name || name == "" {
			a.statement(k)
			return
		}
	}
	panic(s)
}

func (a *activation) tagcase(n api.Node) {
	o := a.expression(n.Kids[0]).object
	names, _ := sample.Divided(a.typed(a.core.Nodes[n.Kids[0]].Type))
	for _, k := range n.Kids[1:] {
		if arm := a.core.Nodes[k]; arm.Name == names[o.tag] {
			a.slots[arm.N] = o.vals[0]
			a.statement(k)
			return
		}
	}
	panic(plainSignal{"tag"})
}

// operation does what is built in.
func (a *activation) operation(t, name string, args []cell) cell {
	truth := func(is bool) cell {
		if is {
			return cell{kind: api.ValBool, n: 1}
		}
		return cell{kind: api.ValBool}
	}
	if name == "equal" {
		return truth(args[0] == args[1])
	}
	front, _, _ := strings.Cut(t, "[")
	switch front {
	case "int":
		return a.arithmetic(name, args[0].n, args[1].n, truth)
	case "bool":
		switch name {
		case "not":
			return truth(args[0].n == 0)
		case "and":
			return truth(args[0].n+args[1].n == 2)
		}
		return truth(args[0].n+args[1].n > 0)
	case "array":
		return a.ofArray(name, args)
	}
	names, _ := sample.Divided(t)
	op, part, _ := strings.Cut(name, "_")
	at := slices.Index(names, part)
	switch front + " " + op {
	case "record make":
		return a.made(2, 0, args)
	case "record get":
		return args[0].object.vals[at]
	case "record set":
		args[0].object.vals[at] = args[1]
		return cell{}
	case "oneof make":
		return a.made(3, at, args)
	case "oneof is":
		return truth(args[0].object.tag == at)
	}
	panic("no operation " + t + "$" + name)
}

func (a *activation) arithmetic(name string, x, y int, truth func(bool) cell) cell {
	n := 0
	switch name {
	case "lt":
		return truth(x < y)
	case "le":
		return truth(x <= y)
	case "add":
		n = x + y
	case "sub":
		n = x - y
	case "mul":
		n = x * y
	case "div", "mod":
		if y == 0 {
			panic(plainSignal{"zerodivide"})
		}
		n = euclid(name, x, y)
	default:
		panic("no operation of ints")
	}
	if n > 1000000000 || n < -1000000000 {
		panic(plainSignal{"overflow"})
	}
	return cell{kind: api.ValInt, n: n}
}

// euclid goes from the quotient without signs to the one whose remainder is not below 0.
func euclid(name string, x, y int) int {
	q := x / y
	for x-q*y < 0 || x-q*y >= max(y, -y) {
		if (x-q*y < 0) == (y > 0) {
			q--
		} else {
			q++
		}
	}
	if name == "div" {
		return q
	}
	return x - q*y
}

func (a *activation) ofArray(name string, args []cell) cell {
	if name == "new" {
		return a.made(1, 0, nil)
	}
	o := args[0].object
	switch name {
	case "size":
		return cell{kind: api.ValInt, n: len(o.vals)}
	case "addh":
		if len(o.vals) >= 200 {
			panic(plainSignal{"overflow"})
		}
		o.vals = append(slices.Clone(o.vals), args[1])
		return cell{}
	}
	at := len(o.vals)
	if name != "remh" {
		at = args[1].n
	}
	if at < 1 || at > len(o.vals) {
		panic(plainSignal{"bounds"})
	}
	switch name {
	case "remh":
		c := o.vals[at-1]
		o.vals = slices.Clone(o.vals[:at-1])
		return c
	case "fetch":
		return o.vals[at-1]
	}
	o.vals[at-1] = args[2]
	return cell{}
}

func (a *activation) made(kind, tag int, vals []cell) cell {
	if len(a.objects) >= 5000 {
		panic(plainSpent{})
	}
	o := &object{at: len(a.objects), kind: kind, tag: tag, vals: slices.Clone(vals)}
	a.objects = append(a.objects, o)
	return cell{kind: api.ValRef, object: o}
}

// plainBottom returns the bottom of a closed type, or the empty string.
func plainBottom(p api.Program, t string) string {
	for range 1000 {
		front, arg, _ := strings.Cut(strings.TrimSuffix(t, "]"), "[")
		at := slices.IndexFunc(p.Faces, func(f api.Face) bool { return f.Name == front && f.Kind == api.ModCluster })
		if at < 0 {
			return t
		}
		rep := p.Reps[at]
		a := &activation{arg: arg}
		if _, tooLarge := caught[plainSpent](func() { t = a.typed(rep) }); tooLarge {
			return ""
		}
	}
	return ""
}

// plainFits tells in a second way whether values are of types together: all values and all places of objects are gone over until nothing new comes.
func plainFits(p api.Program, h []api.Obj, v []api.Value, t []string) bool {
	type typed struct {
		v api.Value
		t string
	}
	bottoms := map[string]string{}
	bottom := func(t string) string {
		if _, isKnown := bottoms[t]; !isKnown {
			bottoms[t] = plainBottom(p, t)
		}
		return bottoms[t]
	}
	all := map[typed]bool{}
	var rest []typed
	add := func(v api.Value, t string) {
		if x := (typed{v, bottom(t)}); !all[x] {
			all[x] = true
			rest = append(rest, x)
		}
	}
	for i, x := range v {
		add(x, t[i])
	}
	of := map[int]string{}
	for len(rest) > 0 {
		x := rest[len(rest)-1]
		rest = rest[:len(rest)-1]
		front, inner, _ := strings.Cut(strings.TrimSuffix(x.t, "]"), "[")
		if want, isSimple := map[string]uint8{"": 0, "int": 1, "bool": 2, "null": 3}[front]; isSimple {
			if x.v.Kind != want {
				return false
			}
			continue
		}
		if x.v.Kind != api.ValRef || of[x.v.N] != "" && of[x.v.N] != x.t {
			return false
		}
		of[x.v.N] = x.t
		o := h[x.v.N]
		_, types := sample.Divided(x.t)
		switch {
		case front == "array" && o.Kind == 1:
			for _, y := range o.Vals {
				add(y, inner)
			}
		case front == "record" && o.Kind == 2 && len(types) == len(o.Vals):
			for i, y := range o.Vals {
				add(y, types[i])
			}
		case front == "oneof" && o.Kind == 3 && o.Tag < len(types):
			add(o.Vals[0], types[o.Tag])
		default:
			return false
		}
	}
	return true
}

// areBothWays tells in a second way whether values are alike: it keeps which object is met with which one.
func areBothWays(h []api.Obj, v []api.Value, g []api.Obj, w []api.Value) bool {
	there, back := map[int]int{}, map[int]int{}
	var rest [][2]int
	match := func(v, w []api.Value) bool {
		if len(v) != len(w) {
			return false
		}
		for i, x := range v {
			y := w[i]
			if x.Kind != y.Kind || x.Kind != api.ValRef && x.N != y.N {
				return false
			}
			if x.Kind != api.ValRef {
				continue
			}
			to, isMet := there[x.N]
			from, isMetBack := back[y.N]
			if isMet != isMetBack || isMet && (to != y.N || from != x.N) {
				return false
			}
			if !isMet {
				there[x.N], back[y.N] = y.N, x.N
				rest = append(rest, [2]int{x.N, y.N})
			}
		}
		return true
	}
	if !match(v, w) {
		return false
	}
	for len(rest) > 0 {
		o, x := h[rest[0][0]], g[rest[0][1]]
		rest = rest[1:]
		if o.Kind != x.Kind || o.Tag != x.Tag || !match(o.Vals, x.Vals) {
			return false
		}
	}
	return true
}

// plainReached numbers objects in a second way: with a stack of the values that are still to be met.
func plainReached(h []api.Obj, v []api.Value) ([]api.Obj, []api.Value) {
	number := map[int]int{}
	var order []int
	stack := slices.Clone(v)
	slices.Reverse(stack)
	for len(stack) > 0 {
		x := stack[len(stack)-1]
		stack = stack[:len(stack)-1]
		if _, isMet := number[x.N]; x.Kind != api.ValRef || isMet {
			continue
		}
		number[x.N] = len(order)
		order = append(order, x.N)
		for i := len(h[x.N].Vals) - 1; i >= 0; i-- {
			stack = append(stack, h[x.N].Vals[i])
		}
	}
	rename := func(l []api.Value) []api.Value {
		var out []api.Value
		for _, x := range l {
			if x.Kind == api.ValRef {
				x.N = number[x.N]
			}
			out = append(out, x)
		}
		return out
	}
	var objects []api.Obj
	for _, i := range order {
		objects = append(objects, api.Obj{Kind: h[i].Kind, Tag: h[i].Tag, Vals: rename(h[i].Vals)})
	}
	return objects, rename(v)
}
