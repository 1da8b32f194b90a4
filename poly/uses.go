package poly

import (
	"slices"

	"argus/api"
	"argus/kind"
)

// tooDeep leaves what needs too many instances, or a type that is too long or has too many levels.
type tooDeep struct{}

// unlessDeep returns what do returns, or ErrDeep if that is too deep.
func unlessDeep[T any](do func() T) (x T, e api.Errno) {
	defer func() {
		if _, isDeep := recover().(tooDeep); isDeep {
			e = api.ErrDeep
		}
	}()
	return do(), api.OK
}

// with puts the argument of an instance into a type of its module.
func (i *instance) with(t string) string {
	if i.arg == "" {
		return t
	}
	t, e := kind.With(t, i.arg)
	if e != api.OK {
		panic(tooDeep{})
	}
	return t
}

// types yields the types in the module of an instance, and empty texts where there could be one. (The signatures of Ops are those of cores, and their Args are slots.)
func (i *instance) types(yield func(t string) bool) {
	goesOn := yield(i.rep)
	for _, c := range i.cores {
		for _, t := range slices.Concat(c.Slots, []string{c.Sig.Result}) {
			goesOn = goesOn && yield(t)
		}
		for _, n := range c.Nodes {
			goesOn = goesOn && yield(n.Type) && (isCallOfModule(n) || yield(n.Var))
		}
	}
}

// calls yields what the cores of an instance call as modules, with the parameter in them.
func (i *instance) calls(yield func(text string) bool) {
	for _, c := range i.cores {
		for _, n := range c.Nodes {
			if isCallOfModule(n) && !yield(n.Var) {
				return
			}
		}
	}
}

func isCallOfModule(n api.Node) bool { return n.Kind == api.ExCall && n.N == 1 }

// uses returns what an instance names.
func (l *library) uses(text string) []string {
	i := l.instance(text)
	open, named := map[string]bool{}, map[string]bool{}
	for t := range i.types {
		open[t] = true
	}
	delete(open, "")
	for t := range open {
		for _, x := range instancesInside(i.with(t)) {
			named[x] = true
		}
	}
	for t := range i.calls {
		named[i.with(t)] = true
	}
	// With the argument in it the signature of a need may come to be too long: what does not fit for that is no instance.
	return slices.DeleteFunc(sorted(named), func(x string) bool { return l.instance(x) == nil })
}

// instancesInside returns the types inside a type that are of clusters.
func instancesInside(t string) []string {
	inside, _ := kind.Inside(t)
	return slices.DeleteFunc(inside, func(x string) bool {
		of, _ := kind.Kind(x)
		return of != api.TypName
	})
}

// needed returns all instances that some instances need.
func (l *library) needed(start []string) []string {
	found := map[string]bool{}
	waiting := slices.Clone(start)
	for len(waiting) > 0 {
		text := waiting[0]
		waiting = waiting[1:]
		if found[text] {
			continue
		}
		found[text] = true
		if len(found) > api.MaxModules {
			panic(tooDeep{})
		}
		waiting = append(waiting, l.uses(text)...)
	}
	return sorted(found)
}

// isClosed reports whether a list of instances has all that one of it names.
func (l *library) isClosed(texts []string) bool {
	for _, text := range texts {
		if !areAmong(l.uses(text), texts) {
			return false
		}
	}
	return true
}
