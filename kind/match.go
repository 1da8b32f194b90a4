package kind

import (
	"slices"

	"argus/api"
)

// Match returns what has to be in the place of the pattern's parameter so that a type comes out.
func Match(pattern, t string) (string, bool, api.Errno) {
	p, e := read(pattern)
	if e != api.OK {
		return "", false, e
	}
	x, e := read(t)
	if e != api.OK {
		return "", false, e
	}
	if !p.isOpen() {
		return "", pattern == t, api.OK
	}
	arg := match(p, x)
	return arg, arg != "", api.OK
}

// pair is a pattern, and what has to come out of it.
type pair struct{ pattern, t typ }

// match returns the argument of an open pattern, or the empty string if there is none.
func match(pattern, t typ) string {
	arg := ""
	rest := []pair{{pattern, t}}
compare:
	for len(rest) > 0 {
		p, x := rest[0].pattern, rest[0].t
		rest = rest[1:]
		switch s := string(x.text); {
		case p.kind == api.TypParam && (arg == "" || arg == s):
			arg = s
		case p.kind == api.TypParam || !p.isLike(x):
			arg = ""
			break compare
		}
		for i, kid := range p.kids {
			rest = append(rest, pair{kid, x.kids[i]})
		}
	}
	return arg
}

// isLike reports whether two types are the same but for their kids.
func (t typ) isLike(other typ) bool {
	return t.front() == other.front() && len(t.kids) == len(other.kids) && slices.Equal(t.names, other.names)
}
