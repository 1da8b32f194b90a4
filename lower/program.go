package lower

import (
	"maps"
	"slices"

	"argus/api"
	"argus/kind"
	"argus/mean"
	"argus/poly"
)

// program is one without parameters, with its cores by their names, and its representations by those of their clusters.
type program struct {
	api.Program
	cores map[string]api.Core
	reps  map[string]string
}

func newProgram(p api.Program) (*program, api.Errno) {
	if e := poly.CheckMono(p); e != api.OK {
		return nil, e
	}
	all := &program{p, map[string]api.Core{}, map[string]string{}}
	for _, c := range p.Cores {
		all.cores[Name(c.Owner, c.Name)] = c
	}
	for i, f := range p.Faces {
		all.reps[f.Name] = p.Reps[i]
	}
	return all, api.OK
}

// missing leaves a search for what there is not, with the error that says so.
type missing struct{ err api.Errno }

// ask returns what do finds in a program, or the error of the program, or that with which do gives up.
func ask[T any](p api.Program, do func(all *program) T) (x T, e api.Errno) {
	defer func() {
		if gone, isMissing := recover().(missing); isMissing {
			e = gone.err
		}
	}()
	all, e := newProgram(p)
	if e != api.OK {
		return x, e
	}
	return do(all), api.OK
}

// core returns the core with a name, or gives up.
func (p *program) core(name string) api.Core {
	c, isThere := p.cores[name]
	if !isThere {
		panic(missing{api.ErrNone})
	}
	return c
}

// byName yields the cores in the order of their names.
func (p *program) byName(yield func(name string, c api.Core) bool) {
	for _, name := range ascending(p.cores) {
		if !yield(name, p.cores[name]) {
			return
		}
	}
}

// ascending returns the names in a map in order.
func ascending[V any](m map[string]V) []string { return slices.Sorted(maps.Keys(m)) }

// bottom returns the bottom of a text that may be no type, or gives up.
func (p *program) bottom(t string) string {
	bottom, e := mean.Bottom(p.Program, t)
	if e != api.OK {
		panic(missing{e})
	}
	return bottom
}

// kindOf returns the kind of a type of the program. It is that of poly.KindOf, which checks all of the program for each type.
func (p *program) kindOf(t string) uint8 {
	of, _ := kind.Kind(t)
	for of == api.TypName {
		t = p.reps[t]
		of, _ = kind.Kind(t)
	}
	switch of {
	case api.TypInt, api.TypBool, api.TypNull:
		return api.RegWord
	}
	return api.RegRef
}

func (p *program) kindsOf(types []string) []uint8 {
	l := make([]uint8, len(types))
	for i, t := range types {
		l[i] = p.kindOf(t)
	}
	return l
}

// resultOf returns the kind of a result, or 0 if there is none.
func (p *program) resultOf(s api.Sig) uint8 {
	if s.Result == "" {
		return 0
	}
	return p.kindOf(s.Result)
}

// signalsOf returns the signals that may come from a routine.
func (p *program) signalsOf(name string) []string {
	l := append([]string{"failure"}, p.cores[name].Sig.Signals...)
	slices.Sort(l)
	return slices.Compact(l)
}

// calleeOf returns the name of the core that a node calls: none if it calls an operation that is built in, or is no call.
func calleeOf(n api.Node) string {
	if n.Kind != api.ExCall {
		return ""
	}
	of, _ := kind.Kind(n.Var)
	switch {
	case of != api.TypName:
		return ""
	case n.N == 1:
		return n.Var
	}
	return Name(n.Var, n.Name)
}
