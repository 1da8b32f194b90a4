package face

import (
	"argus/api"
	"argus/kind"
)

// library is faces, to be found by their names.
type library map[string]api.Face

// newLibrary returns faces that are a library, or the index of the first one that is refused.
func newLibrary(l []api.Face) (library, int, api.Errno) {
	lib := library{}
	before := ""
	for i, f := range l {
		switch {
		case i == api.MaxModules:
			return nil, i, api.ErrLimit
		case !isFace(f):
			return nil, i, api.ErrFace
		case f.Name <= before:
			return nil, i, api.ErrTwice
		}
		lib[f.Name] = f
		before = f.Name
	}
	for i, f := range l {
		s := scope{library: lib, needs: f.Needs, param: f.Param, met: map[string]api.Errno{}}
		if e := s.wrongIn(sigsOf(f)); e != api.OK {
			return nil, i, e
		}
	}
	return lib, 0, api.OK
}

func (lib library) cluster(name string) (api.Face, bool) {
	f, isThere := lib[name]
	return f, isThere && f.Kind == api.ModCluster
}

// routine finds a procedure or an iterator.
func (lib library) routine(name string) (api.Face, bool) {
	f, isThere := lib[name]
	return f, isThere && f.Kind != api.ModCluster
}

// scope is a library, and what is known of a type parameter.
type scope struct {
	library
	needs []api.Need
	param bool
	// met has the types that were asked before: what is inside a type is asked with each type around it.
	met map[string]api.Errno
}

// newScope returns the scope that a function was given. Where it was not told of a parameter, there is one if there are needs or a type is open: then param is true, for closed types do not ask.
func newScope(l []api.Face, needs []api.Need, param bool) (scope, api.Errno) {
	lib, _, e := newLibrary(l)
	if e != api.OK {
		return scope{}, e
	}
	if !areNeeds(needs, true) {
		return scope{}, api.ErrFace
	}
	return scope{library: lib, needs: needs, param: param, met: map[string]api.Errno{}}, api.OK
}

// wrongIn returns what is wrong with the first type in signatures that is not good.
func (s scope) wrongIn(sigs []api.Sig) api.Errno {
	for t := range typesOf(sigs) {
		if e := s.good(t); e != api.OK {
			return e
		}
	}
	return api.OK
}

// good returns OK for a good type, and otherwise what is wrong with it.
func (s scope) good(t string) api.Errno {
	if e, isMet := s.met[t]; isMet {
		return e
	}
	isOpen, e := kind.Open(t)
	switch {
	case e != api.OK:
		return e
	case isOpen && !s.param:
		return api.ErrOpen
	}
	e = s.wrongName(t)
	s.met[t] = e
	return e
}

// wrongName returns what is wrong with the first type with a name inside a type.
func (s scope) wrongName(t string) api.Errno {
	inside, e := kind.Inside(t)
types:
	for _, x := range inside {
		name, other := kind.Base(x)
		if other != api.OK {
			continue
		}
		arg, hasArg, _ := kind.Arg(x)
		switch f, isThere := s.cluster(name); {
		case !isThere || f.Param != hasArg:
			e = api.ErrNone
			break types
		case s.unfit(f.Needs, arg) != "":
			e = api.ErrFit
			break types
		}
	}
	return e
}

// unfit returns the operation of the first need that a type does not fit: the empty string if it fits. Nothing has to be good to fit no needs.
func (s scope) unfit(want []api.Need, t string) string {
	if len(want) == 0 {
		return ""
	}
	own := s.opsOf(t)
	for _, n := range want {
		asked, tooLong := put(n.Sig, t)
		has, e := own.sig(n.Op)
		if tooLong != api.OK || e != api.OK || !isSame(need{n.Op, asked}, operation{n.Op, has}) {
			return n.Op
		}
	}
	return ""
}
