package poly

import (
	"cmp"
	"slices"

	"argus/api"
	"argus/check"
	"argus/face"
	"argus/kind"
)

// library is a valid program, with those of its instances that were asked for: nil stands beside a text that is none.
type library struct {
	api.Program
	instances map[string]*instance
}

// instance is a module with what stands in the place of its parameter, which is empty if it has none.
type instance struct {
	face  api.Face
	rep   string
	cores []api.Core
	arg   string
}

// newLibrary returns a program and some of its instances, or the first error of functions with these.
func newLibrary(p api.Program, texts []string) (*library, api.Errno) {
	if e := check.CheckProgram(p); e != api.OK {
		return nil, e
	}
	if len(texts) > api.MaxModules {
		return nil, api.ErrLimit
	}
	l := &library{p, map[string]*instance{}}
	if !l.areInstances(texts) {
		return nil, api.ErrInst
	}
	return l, api.OK
}

func (l *library) areInstances(texts []string) bool {
	for _, text := range texts {
		if l.instance(text) == nil {
			return false
		}
	}
	return true
}

// instance returns the instance with a text, or nil if there is none.
func (l *library) instance(text string) *instance {
	i, isKnown := l.instances[text]
	if !isKnown {
		i = l.read(text)
		l.instances[text] = i
	}
	return i
}

func (l *library) read(text string) *instance {
	name, e := kind.Base(text)
	if e != api.OK {
		return nil
	}
	arg, hasArg, _ := kind.Arg(text)
	at := slices.IndexFunc(l.Faces, func(f api.Face) bool { return f.Name == name })
	if at < 0 || l.Faces[at].Param != hasArg || hasArg && !l.fits(arg, l.Faces[at].Needs) {
		return nil
	}
	i := &instance{face: l.Faces[at], rep: l.Reps[at], arg: arg}
	for _, c := range l.Cores {
		if c.Owner == name || c.Owner == "" && c.Name == name {
			i.cores = append(i.cores, c)
		}
	}
	return i
}

// fits reports whether a text is a closed type that is good, and that fits some needs.
func (l *library) fits(arg string, needs []api.Need) bool {
	if face.Good(l.Faces, nil, false, arg) != api.OK {
		return false
	}
	_, fits, _ := face.Fits(l.Faces, nil, needs, arg)
	return fits
}

// sorted returns the keys of a map in order.
func sorted[K cmp.Ordered, V any](m map[K]V) []K {
	l := make([]K, 0, len(m))
	for k := range m {
		l = append(l, k)
	}
	slices.Sort(l)
	return l
}

// areAscending reports whether texts ascend strictly.
func areAscending(l []string) bool {
	for i := 1; i < len(l); i++ {
		if l[i-1] >= l[i] {
			return false
		}
	}
	return true
}

// areAmong reports whether each of some texts is in a list.
func areAmong(some, l []string) bool {
	for _, s := range some {
		if !slices.Contains(l, s) {
			return false
		}
	}
	return true
}
