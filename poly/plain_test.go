package poly_test

import (
	"slices"
	"strconv"
	"strings"

	"argus/api"
	"argus/face"
	"argus/kind"
)

// A second way to do what the package does: with texts alone, without taking types apart.

// words divides a type into names and signs.
func words(t string) []string {
	var l []string
	isName := func(c byte) bool {
		return c == '_' || '0' <= c && c <= '9' || 'A' <= c && c <= 'Z' || 'a' <= c && c <= 'z'
	}
	for i := range len(t) {
		if i > 0 && isName(t[i]) && isName(t[i-1]) {
			l[len(l)-1] += t[i:][:1]
		} else {
			l = append(l, t[i:][:1])
		}
	}
	return l
}

// instanceAt returns the instance that begins at a word, and how many words it has: none if there is 0.
func instanceAt(l []string) (string, int) {
	isNone := slices.Contains([]string{"int", "bool", "null", "array", "record", "oneof", "[", "]", ",", ":", "?"}, l[0])
	if isNone || len(l) > 1 && l[1] == ":" {
		return "", 0
	}
	if len(l) == 1 || l[1] != "[" {
		return l[0], 1
	}
	depth, n := 0, 1
	for ; n == 1 || depth > 0; n++ {
		switch l[n] {
		case "[":
			depth++
		case "]":
			depth--
		}
	}
	return strings.Join(l[:n], ""), n
}

// replaced returns a type with its outermost instances turned.
func replaced(t string, turn func(i string) string) string {
	l, out := words(t), ""
	for len(l) > 0 {
		i, n := instanceAt(l)
		if n == 0 {
			i, n = l[0], 1
		} else {
			i = turn(i)
		}
		out, l = out+i, l[n:]
	}
	return out
}

// plainInside returns the instances inside a type, again and again.
func plainInside(t string) []string {
	var out []string
	for l := words(t); len(l) > 0; l = l[1:] {
		if i, n := instanceAt(l); n > 0 {
			out = append(out, i)
		}
	}
	return out
}

// plainInstance reports whether a text is an instance.
func plainInstance(p api.Program, text string) bool {
	name, arg, hasArg := strings.Cut(strings.TrimSuffix(text, "]"), "[")
	if kind.Check(text) != api.OK || strings.Contains(text, "?") {
		return false
	}
	for _, f := range p.Faces {
		switch {
		case f.Name != name:
		case f.Kind == api.ModCluster:
			return face.Good(p.Faces, nil, false, text) == api.OK
		case !hasArg:
			return !f.Param
		default:
			_, e := face.SigOf(p.Faces, nil, name, arg)
			return e == api.OK || e == api.ErrLimit
		}
	}
	return false
}

// put puts the argument of an instance into what stands in its module; it reports whether that can be.
func put(text, t string) (string, bool) {
	_, arg, _ := strings.Cut(strings.TrimSuffix(text, "]"), "[")
	t = strings.ReplaceAll(t, "?t", arg)
	return t, kind.Check(t) == api.OK
}

// ownOf returns the index of the face of an instance, and its cores.
func ownOf(p api.Program, text string) (int, []api.Core) {
	name, _, _ := strings.Cut(text, "[")
	at := slices.IndexFunc(p.Faces, func(f api.Face) bool { return f.Name == name })
	var cores []api.Core
	for _, c := range p.Cores {
		if c.Owner == name || c.Owner+c.Name == name {
			cores = append(cores, c)
		}
	}
	return at, cores
}

// plainUses returns what an instance names, and true, or false if something is too deep.
func plainUses(p api.Program, text string) ([]string, bool) {
	var types, out []string
	at, cores := ownOf(p, text)
	types = append(types, p.Reps[at])
	for _, o := range p.Faces[at].Ops {
		types = append(append(types, o.Sig.Args...), o.Sig.Result)
	}
	for _, c := range cores {
		types = append(append(append(types, c.Sig.Args...), c.Sig.Result), c.Slots...)
		for _, n := range c.Nodes {
			types = append(types, n.Type)
			if n.Kind != api.ExCall {
				continue
			}
			if n.N == 0 {
				types = append(types, n.Var)
				continue
			}
			called, isText := put(text, n.Var)
			if !isText {
				return nil, false
			}
			out = append(out, called)
		}
	}
	for _, t := range types {
		if t == "" {
			continue
		}
		t, isType := put(text, t)
		if !isType {
			return nil, false
		}
		out = append(out, plainInside(t)...)
	}
	slices.Sort(out)
	isNone := func(x string) bool { return !plainInstance(p, x) }
	return slices.DeleteFunc(slices.Compact(out), isNone), true
}

// plainAll returns what some instances need, and true, or false if that is too deep: it goes on until nothing new comes.
func plainAll(p api.Program, start []string) ([]string, bool) {
	l := slices.Clone(start)
	for {
		slices.Sort(l)
		l = slices.Compact(l)
		before := len(l)
		if before > 20 {
			return nil, false
		}
		for _, i := range slices.Clone(l) {
			uses, isThere := plainUses(p, i)
			if !isThere {
				return nil, false
			}
			l = append(l, uses...)
		}
		slices.Sort(l)
		if l = slices.Compact(l); len(l) == before {
			return l, true
		}
	}
}

// plainNames returns the names of instances.
func plainNames(p api.Program, l []string) []string {
	taken := namesOf(p)
	var out []string
	for _, i := range l {
		name := i
		for n := 1; strings.Contains(i, "[") && name == i; n++ {
			if next := "i" + strconv.Itoa(n); !slices.Contains(taken, next) {
				name = next
				taken = append(taken, next)
			}
		}
		out = append(out, name)
	}
	return out
}

// plainMono returns the program of instances that are closed.
func plainMono(p api.Program, l []string) api.Program {
	names := plainNames(p, l)
	byName := slices.Sorted(slices.Values(names))
	var q api.Program
	for _, name := range byName {
		i := l[slices.Index(names, name)]
		turn := func(t string) string {
			t, _ = put(i, t)
			return replaced(t, func(i string) string { return names[slices.Index(l, i)] })
		}
		at, cores := ownOf(p, i)
		f := copied(p.Faces[at])
		f.Name, f.Param, f.Needs = name, false, nil
		for k := range f.Ops {
			if f.Kind != api.ModCluster {
				f.Ops[k].Name = name
			}
			plainSig(&f.Ops[k].Sig, turn)
		}
		q.Faces, q.Reps = append(q.Faces, f), append(q.Reps, turn(p.Reps[at]))
		for _, c := range cores {
			q.Cores = append(q.Cores, plainCore(c, name, turn))
		}
	}
	return q
}

func plainCore(c api.Core, name string, turn func(string) string) api.Core {
	c = copied(c)
	to := &c.Owner
	if c.Owner == "" {
		to = &c.Name
	}
	*to = name
	plainSig(&c.Sig, turn)
	for k := range c.Slots {
		c.Slots[k] = turn(c.Slots[k])
	}
	for k := range c.Nodes {
		n := &c.Nodes[k]
		n.Type, n.Var = turn(n.Type), turn(n.Var)
	}
	return c
}

func plainSig(s *api.Sig, turn func(string) string) {
	for k := range s.Args {
		s.Args[k] = turn(s.Args[k])
	}
	s.Result = turn(s.Result)
}
