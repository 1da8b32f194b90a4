package mean

import (
	"slices"
	"strings"

	"argus/api"
	"argus/kind"
)

// maxDepth is how many routines may stand inside each other.
const maxDepth = 400

// spent leaves a run that is spent.
type spent struct{}

// run is a program that is run: its heap, what it has put, and the steps that it took.
type run struct {
	api.Program
	heap           []api.Obj
	put            []int
	steps, allowed int
	rules          map[uint8]rule
	builtIns       map[operation]builtIn
	cores          map[routine]*api.Core
	// types and callees have what was found before: to take texts apart costs more than a step.
	types   map[putting]string
	callees map[call]callee
}

// putting is a type, and what is put in the place of its parameter.
type putting struct{ t, arg string }

// call is what a node calls: N and Name of an ExCall, and Var with the argument put in.
type call struct {
	n        int
	of, name string
}

// callee is a routine, or else an operation that is built in, with the index of the part that it names.
type callee struct {
	instance
	builtIn builtIn
	part    int
}

// instance is a routine with what stands in the place of the parameter.
type instance struct {
	*api.Core
	arg string
}

func newRun(p api.Program, h []api.Obj, allowed int) *run {
	r := &run{Program: p, heap: cloneHeap(h), allowed: allowed, rules: rules(), builtIns: builtIns()}
	r.cores, r.types, r.callees = map[routine]*api.Core{}, map[putting]string{}, map[call]callee{}
	for i, c := range p.Cores {
		r.cores[routine{c.Owner, c.Name}] = &p.Cores[i]
	}
	return r
}

func (r *run) instanceOf(of routine, arg string) instance { return instance{r.cores[of], arg} }

// first runs a routine that is called by none, and tells how that ends.
func (r *run) first(ref reference, args []api.Value, loop func(api.Value) leaving) (ran api.Ran) {
	defer func() {
		if _, isSpent := recover().(spent); isSpent {
			ran = api.Ran{Kind: api.RanSpent}
		}
		ran.Put, ran.Steps = r.put, r.steps
	}()
	value, left := r.newFrame(r.instanceOf(ref.routine, ref.arg), args, 1, loop).runBody()
	switch x := beyond(left).(type) {
	case signalled:
		return api.Ran{Kind: api.RanSignal, Signal: x.name}
	default:
		return api.Ran{Kind: api.RanDone, Value: value}
	}
}

// step takes a step, unless it would be one too many.
func (r *run) step() {
	r.demand(r.steps < r.allowed)
	r.steps++
}

// demand leaves the run, which is spent, unless there is enough of something.
func (r *run) demand(isEnough bool) {
	if !isEnough {
		panic(spent{})
	}
}

// made makes an object, which keeps the memory of vals, and returns the reference to it.
func (r *run) made(kind uint8, tag int, vals []api.Value) api.Value {
	r.demand(len(r.heap) < api.MaxObjects)
	r.heap = append(r.heap, api.Obj{Kind: kind, Tag: tag, Vals: vals})
	return api.Value{Kind: api.ValRef, N: len(r.heap) - 1}
}

// frame is a routine while it is run: what its slots contain, how many routines stand around it (itself included), and, for an iterator, what its loop does with a value.
type frame struct {
	*run
	instance
	values []api.Value
	depth  int
	loop   func(api.Value) leaving
}

func (r *run) newFrame(x instance, args []api.Value, depth int, loop func(api.Value) leaving) *frame {
	r.demand(depth <= maxDepth)
	values := make([]api.Value, len(x.Slots))
	copy(values, args)
	return &frame{r, x, values, depth, loop}
}

// runBody evaluates the body, and returns the result, or what goes on from the call; for an iterator that was given up that is why its loop was left.
func (f *frame) runBody() (api.Value, leaving) {
	_, left := f.eval(len(f.Nodes) - 1)
	switch x := left.(type) {
	case returned:
		return x.value, nil
	case signalled:
		return api.Value{}, f.passedOn(x)
	case givenUp:
		return api.Value{}, x.by
	}
	if f.Sig.Result != "" && !f.Sig.Iter {
		return signal("failure")
	}
	return api.Value{}, nil
}

// passedOn returns what a signal that the routine does not handle is outside.
func (f *frame) passedOn(s signalled) leaving {
	if slices.Contains(f.Sig.Signals, s.name) {
		return s
	}
	return signalled{"failure"}
}

// eval evaluates a node.
func (f *frame) eval(i int) (api.Value, leaving) {
	f.step()
	n := f.Nodes[i]
	return f.rules[n.Kind](f, n)
}

// evalAll evaluates nodes in their order, unless one is left.
func (f *frame) evalAll(nodes []int) ([]api.Value, leaving) {
	l := make([]api.Value, len(nodes))
	for i, k := range nodes {
		v, left := f.eval(k)
		if left != nil {
			return nil, left
		}
		l[i] = v
	}
	return l, nil
}

// closed returns a type with the argument in the place of the parameter; if that is too large for a type the run is spent.
func (f *frame) closed(t string) string {
	if f.arg == "" {
		return t
	}
	what := putting{t, f.arg}
	s, isKnown := f.types[what]
	if !isKnown {
		s, _ = kind.With(t, f.arg)
		f.types[what] = s
	}
	f.demand(s != "")
	return s
}

// calleeOf returns what an ExCall calls.
func (f *frame) calleeOf(n api.Node) callee {
	what := call{n.N, f.closed(n.Var), n.Name}
	c, isKnown := f.callees[what]
	if !isKnown {
		c = f.find(what)
		f.callees[what] = c
	}
	return c
}

// find returns what is called.
func (r *run) find(what call) callee {
	of, _ := kind.Kind(what.of)
	if of != api.TypName {
		return r.findBuiltIn(of, what)
	}
	name, _ := kind.Base(what.of)
	arg, _, _ := kind.Arg(what.of)
	if what.n == 1 {
		return callee{instance: r.instanceOf(routine{name: name}, arg)}
	}
	return callee{instance: r.instanceOf(routine{name, what.name}, arg)}
}

func (r *run) findBuiltIn(of uint8, what call) callee {
	name, part, _ := strings.Cut(what.name, "_")
	parts, _ := kind.Parts(what.of)
	hasName := func(p api.Part) bool { return p.Name == part }
	return callee{builtIn: r.builtIns[operation{of, name}], part: slices.IndexFunc(parts, hasName)}
}
