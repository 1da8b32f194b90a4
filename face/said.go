package face

import (
	"iter"
	"slices"

	"argus/api"
	"argus/kind"
	"argus/token"
)

// isFace reports whether a face is as said.
func isFace(f api.Face) bool {
	return token.IsName(f.Name) && (f.Param || len(f.Needs) == 0) && areNeeds(f.Needs, f.Param) && hasOpsOfKind(f)
}

// areNeeds reports whether needs are as said of a face with or without a parameter.
func areNeeds(l []api.Need, param bool) bool {
	if len(l) > api.MaxNeeds {
		return false
	}
	names := make([]string, len(l))
	for i, n := range l {
		names[i] = n.Op
		if !isSig(n.Sig, param) {
			return false
		}
	}
	return areAscending(names)
}

// hasOpsOfKind reports whether a face has the operations that its kind asks for.
func hasOpsOfKind(f api.Face) bool {
	switch f.Kind {
	case api.ModProc, api.ModIter:
		isOwn := len(f.Ops) == 1 && f.Ops[0].Name == f.Name && f.Ops[0].Sig.Iter == (f.Kind == api.ModIter)
		return isOwn && isSig(f.Ops[0].Sig, f.Param)
	case api.ModCluster:
		return 1 <= len(f.Ops) && len(f.Ops) <= api.MaxRoutines && areOps(f.Ops, f.Param)
	}
	return false
}

func areOps(l []api.Op, param bool) bool {
	names := make([]string, len(l))
	for i, o := range l {
		names[i] = o.Name
		if !isSig(o.Sig, param) {
			return false
		}
	}
	// Names that ascend once they are sorted are all different.
	slices.Sort(names)
	return areAscending(names)
}

// areAscending reports whether strings are names, each one greater than the one before.
func areAscending(names []string) bool {
	for i, name := range names {
		if !token.IsName(name) || i > 0 && names[i-1] >= name {
			return false
		}
	}
	return true
}

// isSig reports whether a signature is as said, with closed types where there is no parameter.
func isSig(s api.Sig, param bool) bool {
	if len(s.Args) > api.MaxArgs || len(s.Signals) > api.MaxSignals || !areAscending(s.Signals) || s.Iter && s.Result == "" {
		return false
	}
	for _, t := range typesOfSig(s) {
		if isOpen, e := kind.Open(t); e != api.OK || isOpen && !param {
			return false
		}
	}
	return true
}

// typesOfSig returns the types of the arguments and of the result, if there is one.
func typesOfSig(s api.Sig) []string {
	l := slices.Clone(s.Args)
	if s.Result != "" {
		l = append(l, s.Result)
	}
	return l
}

// typesOf yields the types in signatures as they stand.
func typesOf(sigs []api.Sig) iter.Seq[string] {
	return func(yield func(string) bool) {
		for _, s := range sigs {
			for _, t := range typesOfSig(s) {
				if !yield(t) {
					return
				}
			}
		}
	}
}

// sigsOf returns the signatures of a face: those of its needs, then those of its operations.
func sigsOf(f api.Face) []api.Sig {
	l := sigsOfNeeds(f.Needs)
	for _, o := range f.Ops {
		l = append(l, o.Sig)
	}
	return l
}

func sigsOfNeeds(needs []api.Need) []api.Sig {
	var l []api.Sig
	for _, n := range needs {
		l = append(l, n.Sig)
	}
	return l
}
