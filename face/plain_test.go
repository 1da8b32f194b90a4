package face_test

import (
	"slices"
	"strings"

	"argus/api"
	"argus/kind"
)

// plain is a scope as the tests see it: a second way to find operations, in which signatures are texts.
type plain struct {
	faces []api.Face
	needs []api.Need
	param bool
}

// plainOps has the operations of the types that are built in: T stands for the argument, R for the type itself.
var plainOps = map[string]string{
	"int":   "add proc(int,int) returns int signals(overflow)|sub proc(int,int) returns int signals(overflow)|mul proc(int,int) returns int signals(overflow)|div proc(int,int) returns int signals(zerodivide)|mod proc(int,int) returns int signals(zerodivide)|equal proc(int,int) returns bool|le proc(int,int) returns bool|lt proc(int,int) returns bool",
	"bool":  "and proc(bool,bool) returns bool|equal proc(bool,bool) returns bool|or proc(bool,bool) returns bool|not proc(bool) returns bool",
	"null":  "equal proc(null,null) returns bool",
	"array": "addh proc(R,T) signals(overflow)|equal proc(R,R) returns bool|fetch proc(R,int) returns T signals(bounds)|new proc() returns R|remh proc(R) returns T signals(bounds)|size proc(R) returns int|store proc(R,int,T) signals(bounds)",
}

func text(s api.Sig) string {
	word, gives := "proc", " returns "
	if s.Iter {
		word, gives = "iter", " yields "
	}
	out := word + "(" + strings.Join(s.Args, ",") + ")"
	if s.Result != "" {
		out += gives + s.Result
	}
	if len(s.Signals) > 0 {
		out += " signals(" + strings.Join(s.Signals, ",") + ")"
	}
	return out
}

// tooLong stands for a signature that has no room.
const tooLong = "too long"

// filled puts an argument into a signature.
func filled(sig api.Sig, arg string) string {
	for _, t := range append(slices.Clone(sig.Args), sig.Result) {
		if t != "" && kind.Check(strings.ReplaceAll(t, "?t", arg)) != api.OK {
			return tooLong
		}
	}
	return strings.ReplaceAll(text(sig), "?t", arg)
}

// taken returns the front of a type, what stands in its brackets, and whether there are some.
func taken(t string) (string, string, bool) {
	front, rest, isBracketed := strings.Cut(t, "[")
	return front, strings.TrimSuffix(rest, "]"), isBracketed
}

// ops returns the operations of a good type by their names.
func (p plain) ops(t string) map[string]string {
	m := map[string]string{}
	front, inner, isBracketed := taken(t)
	if table, isBuiltIn := plainOps[front]; isBuiltIn {
		for _, line := range strings.Split(table, "|") {
			name, s, _ := strings.Cut(line, " ")
			m[name] = strings.NewReplacer("R", t, "T", inner).Replace(s)
		}
		return m
	}
	switch front {
	case "?t":
		for _, n := range p.needs {
			m[n.Op] = text(n.Sig)
		}
	case "record", "oneof":
		m["equal"] = "proc(" + t + "," + t + ") returns bool"
		var all []string
		for _, part := range divide(inner) {
			name, typ, _ := strings.Cut(part, ":")
			all = append(all, typ)
			if front == "oneof" {
				m["is_"+name] = "proc(" + t + ") returns bool"
				m["make_"+name] = "proc(" + typ + ") returns " + t
				continue
			}
			m["get_"+name] = "proc(" + t + ") returns " + typ
			m["set_"+name] = "proc(" + t + "," + typ + ")"
		}
		if front == "record" {
			m["make"] = "proc(" + strings.Join(all, ",") + ") returns " + t
		}
	default:
		for _, o := range p.find(front).Ops {
			m[o.Name] = text(o.Sig)
			if isBracketed {
				m[o.Name] = filled(o.Sig, inner)
			}
		}
	}
	return m
}

func (p plain) find(name string) api.Face {
	for _, f := range p.faces {
		if f.Name == name {
			return f
		}
	}
	return api.Face{}
}

// unfit returns the operation of the first need that a type does not fit.
func (p plain) unfit(want []api.Need, t string) string {
	for _, n := range want {
		asked := filled(n.Sig, t)
		if p.good(t) != api.OK || asked == tooLong || p.ops(t)[n.Op] != asked {
			return n.Op
		}
	}
	return ""
}

// good tells what is wrong with a type, from the outside to the inside.
func (p plain) good(t string) api.Errno {
	if e := kind.Check(t); e != api.OK {
		return e
	}
	if strings.Contains(t, "?") && !p.param {
		return api.ErrOpen
	}
	front, inner, isBracketed := taken(t)
	var kids []string
	switch front {
	case "int", "bool", "null", "?t":
		return api.OK
	case "array":
		kids = []string{inner}
	case "record", "oneof":
		for _, part := range divide(inner) {
			_, typ, _ := strings.Cut(part, ":")
			kids = append(kids, typ)
		}
	default:
		f := p.find(front)
		if f.Kind != api.ModCluster || f.Param != isBracketed {
			return api.ErrNone
		}
		if isBracketed {
			if p.unfit(f.Needs, inner) != "" {
				return api.ErrFit
			}
			kids = []string{inner}
		}
	}
	for _, kid := range kids {
		if e := p.good(kid); e != api.OK {
			return e
		}
	}
	return api.OK
}

// library tells the index and the error of the first face that is refused; all are as said.
func (p plain) library() (int, api.Errno) {
	for i := range p.faces {
		if i > 0 && p.faces[i].Name <= p.faces[i-1].Name {
			return i, api.ErrTwice
		}
	}
	for i, f := range p.faces {
		own := plain{p.faces, f.Needs, f.Param}
		for _, t := range typesIn(f) {
			if e := own.good(t); e != api.OK {
				return i, e
			}
		}
	}
	return 0, api.OK
}

// typesIn returns the types of a face in the order of its text.
func typesIn(f api.Face) []string {
	var l []string
	for _, n := range f.Needs {
		l = append(append(l, n.Sig.Args...), n.Sig.Result)
	}
	for _, o := range f.Ops {
		l = append(append(l, o.Sig.Args...), o.Sig.Result)
	}
	return slices.DeleteFunc(l, func(t string) bool { return t == "" })
}
