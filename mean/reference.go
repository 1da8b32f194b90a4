package mean

import (
	"strings"

	"argus/api"
	"argus/face"
	"argus/kind"
)

// routine names a core: the owner is empty unless it is that of a cluster.
type routine struct{ owner, name string }

// reference is a routine with an argument (empty if it has none), and its signature with that put in.
type reference struct {
	routine
	arg string
	sig api.Sig
}

// refer returns what a text refers to, and true, or false if it is no reference to a routine.
func refer(p api.Program, text string) (reference, bool) {
	if of, op, isOperation := strings.Cut(text, "$"); isOperation {
		return referToOperation(p, of, op)
	}
	return referToModule(p, text)
}

func referToOperation(p api.Program, of, op string) (reference, bool) {
	owner, e := kind.Base(of)
	if e != api.OK || !isGood(p, of) {
		return reference{}, false
	}
	arg, _, _ := kind.Arg(of)
	sig, e := face.OpOf(p.Faces, nil, of, op)
	return reference{routine{owner, op}, arg, sig}, e == api.OK
}

func referToModule(p api.Program, text string) (reference, bool) {
	name, arg, hasArg := strings.Cut(text, "[")
	if hasArg {
		inner, isClosed := strings.CutSuffix(arg, "]")
		if !isClosed || !isGood(p, inner) {
			return reference{}, false
		}
		arg = inner
	}
	sig, e := face.SigOf(p.Faces, nil, name, arg)
	return reference{routine{name: name}, arg, sig}, e == api.OK
}

// isPlain reports whether a routine is a module without a parameter, and all its types are int or bool.
func (r reference) isPlain(module string) bool {
	if r.routine != (routine{name: module}) {
		return false
	}
	for _, t := range append([]string{r.sig.Result}, r.sig.Args...) {
		if t != "" && t != "int" && t != "bool" {
			return false
		}
	}
	return true
}
