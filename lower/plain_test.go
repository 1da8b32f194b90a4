package lower_test

import (
	"slices"
	"strings"

	"argus/api"
	"argus/flow"
	"argus/mean"
	"argus/poly"
)

// What the functions that ask about a program return is found here in a second way, by what the chapter's words say.

// plainKind asks layer 7 for the kind of a type: 0 for the empty text.
func plainKind(p api.Program, t string) uint8 {
	if t == "" {
		return 0
	}
	k, e := poly.KindOf(p, t)
	if e != api.OK {
		panic(t)
	}
	return k
}

// plainCore returns the core with a name.
func plainCore(p api.Program, name string) (api.Core, bool) {
	owner, op, hasOwner := strings.Cut(name, "$")
	if !hasOwner {
		owner, op = "", name
	}
	i := slices.IndexFunc(p.Cores, func(c api.Core) bool { return c.Owner == owner && c.Name == op && (owner != "" || !hasOwner) })
	if i < 0 {
		return api.Core{}, false
	}
	return p.Cores[i], true
}

func plainLike(p api.Program, f api.Flow) bool {
	c, isThere := plainCore(p, f.Name)
	if !isThere || flow.Check(f) != api.OK || f.Args != len(c.Sig.Args) || len(f.Slots) > 0 {
		return false
	}
	for i, t := range c.Sig.Args {
		if f.Regs[i] != plainKind(p, t) {
			return false
		}
	}
	return f.Result == plainKind(p, c.Sig.Result) && f.Iter == c.Sig.Iter && slices.Equal(f.Signals, c.Sig.Signals)
}

func plainCheck(p api.Program, l []api.Flow) (int, api.Errno) {
	for i, f := range l {
		if !plainLike(p, f) || i > 0 && strings.Compare(l[i-1].Name, f.Name) != -1 {
			return i, api.ErrArg
		}
	}
	for _, c := range p.Cores {
		has := func(f api.Flow) bool {
			x, _ := plainCore(p, f.Name)
			return x.Owner == c.Owner && x.Name == c.Name
		}
		if !slices.ContainsFunc(l, has) {
			return len(l), api.ErrNone
		}
	}
	return flow.CheckAll(l)
}

func plainPart(p api.Program, t, op string) (int, api.Errno) {
	bottom, e := mean.Bottom(p, t)
	if e != api.OK {
		return 0, e
	}
	inner, isRecord := strings.CutPrefix(bottom, "record[")
	fronts := []string{"get_", "set_"}
	if !isRecord {
		inner, isRecord = strings.CutPrefix(bottom, "oneof[")
		fronts = []string{"make_", "is_"}
	}
	if !isRecord || !slices.ContainsFunc(fronts, func(s string) bool { return strings.HasPrefix(op, s) }) {
		return 0, api.ErrPart
	}
	_, part, _ := strings.Cut(op, "_")
	at, depth := 0, 0
	for rest := "," + inner; rest != ""; rest = rest[1:] {
		switch rest[0] {
		case '[':
			depth++
		case ']':
			depth--
		case ',':
			if depth == 0 && strings.HasPrefix(rest, ","+part+":") && part != "" {
				return at, api.OK
			}
			if depth == 0 {
				at++
			}
		}
	}
	return 0, api.ErrPart
}

func plainValue(p api.Program, t string, v api.Value) (int, api.Errno) {
	bottom, e := mean.Bottom(p, t)
	switch {
	case e != api.OK:
		return 0, e
	case bottom == "int" && v.Kind == api.ValInt && max(v.N, -v.N) <= 1000000000 && v.N > -2000000000,
		bottom == "bool" && v.Kind == api.ValBool && v.N*v.N == v.N,
		bottom == "null" && v.Kind == api.ValNil && v.N == 0:
		return v.N, api.OK
	}
	return 0, api.ErrArg
}

// plainCalls returns the cores that are called, in the order of the program.
func plainCalls(p api.Program, name string) []string {
	c, _ := plainCore(p, name)
	var l []string
	for _, x := range p.Cores {
		for _, n := range c.Nodes {
			isIt := n.N == 1 && x.Owner == "" && x.Name == n.Var || n.N == 0 && x.Owner != "" && x.Owner == n.Var && x.Name == n.Name
			if n.Kind == api.ExCall && isIt {
				l = append(l, strings.TrimPrefix(x.Owner+"$"+x.Name, "$"))
				break
			}
		}
	}
	slices.Sort(l)
	return l
}
