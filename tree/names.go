package tree

import (
	"slices"
	"strings"

	"argus/api"
	"argus/token"
)

// IsType reports whether a string is a type text.
func IsType(s string) bool {
	if len(s) > api.MaxType {
		return false
	}
	tokens, f := token.Scan(s)
	if f != (api.Fault{}) {
		return false
	}
	p := &parser{tokens: tokens}
	f = attempt(p.skipType)
	return f == (api.Fault{}) && p.text(0) == s
}

// IsOp reports whether a string is an operation's name.
func IsOp(s string) bool {
	switch s {
	case "mod", "and", "or", "not":
		return true
	}
	first, second, isPair := strings.Cut(s, "_")
	return token.IsName(first) && (!isPair || token.IsName(second))
}

// Uses returns the names of modules that a body calls, or names in its types.
func Uses(l []api.Node) ([]string, api.Errno) {
	if e := CheckNodes(l); e != api.OK {
		return nil, e
	}
	var names []string
	for _, n := range l {
		names = append(names, typeNames(n.Type)...)
		switch {
		case n.Kind == api.ExCall && n.Var == "":
			names = append(names, n.Name)
		case n.Kind == api.ExCall:
			names = append(names, typeNames(n.Var)...)
		}
	}
	slices.Sort(names)
	return slices.Compact(names), api.OK
}

// typeNames returns the names in a type text, but for those of parts and of the parameter.
func typeNames(t string) []string {
	tokens, _ := token.Scan(t)
	var names []string
	for i, x := range tokens {
		isPart := i+1 < len(tokens) && tokens[i+1].Text == ":"
		isParameter := i > 0 && tokens[i-1].Text == "?"
		if x.Kind == api.TokName && !isPart && !isParameter {
			names = append(names, x.Text)
		}
	}
	return names
}
