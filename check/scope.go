package check

import (
	"slices"

	"argus/api"
	"argus/face"
	"argus/kind"
)

// library is the faces of all modules in the order of their names.
type library struct {
	faces []api.Face
	uses  map[string][]string
}

// newLibrary returns faces of which face.CheckAll has found that they are a library.
func newLibrary(faces []api.Face) *library {
	l := &library{faces: faces, uses: map[string][]string{}}
	for _, f := range faces {
		l.uses[f.Name], _ = face.Uses(f)
	}
	return l
}

// near returns the faces with some names, and those that they use in turn. No other one matters for a type with these names, and package face looks at all that it is given, each time.
func (l *library) near(names []string) []api.Face {
	met := map[string]bool{}
	for rest := names; len(rest) > 0; {
		name := rest[0]
		rest = rest[1:]
		if !met[name] {
			met[name] = true
			rest = slices.Concat(rest, l.uses[name])
		}
	}
	var faces []api.Face
	for _, f := range l.faces {
		if met[f.Name] {
			faces = append(faces, f)
		}
	}
	return faces
}

// scope is a module with all that it can name; rep and own are empty outside clusters, and hidden has the routines that the face does not have.
type scope struct {
	*library
	api.Face
	rep, own string
	hidden   map[string]api.Sig
	// known has what was asked before: each question costs a look at faces.
	known map[question]answer
}

// question is about a type (asks is what about it), an operation of a type, or a routine with an argument.
type question struct {
	asks    uint8
	t, name string
}

const (
	asksGood uint8 = iota
	asksOperation
	asksRoutine
)

type answer struct {
	sig api.Sig
	err api.Errno
}

// newScope returns the scope of a module; hidden are the routines of a cluster behind those of its face.
func newScope(l *library, f api.Face, rep string, hidden []api.Op) *scope {
	s := &scope{library: l, Face: f, rep: rep, hidden: map[string]api.Sig{}, known: map[question]answer{}}
	s.own = ownType(f)
	for _, x := range hidden {
		s.hidden[x.Name] = x.Sig
	}
	return s
}

// ownType returns the own type of a cluster, and the empty string for other modules.
func ownType(f api.Face) string {
	switch {
	case f.Kind != api.ModCluster:
		return ""
	case f.Param:
		return f.Name + "[?t]"
	}
	return f.Name
}

// owner returns the name of the cluster that a scope is of, and the empty string for other modules.
func (s *scope) owner() string {
	if s.own == "" {
		return ""
	}
	return s.Name
}

// ask returns what was found as an answer before, or else finds it among the faces that a type and some modules lead to.
func (s *scope) ask(q question, find func([]api.Face) (api.Sig, api.Errno), modules ...string) (api.Sig, api.Errno) {
	a, isKnown := s.known[q]
	if !isKnown {
		names, _ := kind.Names(q.t)
		a.sig, a.err = find(s.near(append(names, modules...)))
		s.known[q] = a
	}
	return a.sig, a.err
}

// good returns OK for a type that is good in the scope.
func (s *scope) good(t string) api.Errno {
	_, e := s.ask(question{asksGood, t, ""}, func(faces []api.Face) (api.Sig, api.Errno) {
		return api.Sig{}, face.Good(faces, s.Needs, s.Param, t)
	})
	return e
}

// operation returns the signature of an operation of a type.
func (s *scope) operation(t, name string) (api.Sig, api.Errno) {
	if sig, isHidden := s.hidden[name]; isHidden && t == s.own {
		return sig, api.OK
	}
	return s.ask(question{asksOperation, t, name}, func(faces []api.Face) (api.Sig, api.Errno) {
		return face.OpOf(faces, s.Needs, t, name)
	})
}

// routineOf returns the signature of a procedure or an iterator with an argument, which is empty if it has none.
func (s *scope) routineOf(name, arg string) (api.Sig, api.Errno) {
	return s.ask(question{asksRoutine, arg, name}, func(faces []api.Face) (api.Sig, api.Errno) {
		return face.SigOf(faces, s.Needs, name, arg)
	}, name)
}

// firstCircle returns the index of the first module from which a chain of representations comes back to one that was met, or -1.
func firstCircle(names []string, reps map[string]string) int {
chains:
	for i, name := range names {
		met := map[string]bool{}
		for !met[name] {
			met[name] = true
			next, e := kind.Base(reps[name])
			if e != api.OK {
				continue chains
			}
			name = next
		}
		return i
	}
	return -1
}
