package kind_test

import (
	"math/rand/v2"
	"reflect"
	"slices"
	"strings"

	"argus/api"
	"argus/kind"
	"argus/token"
)

// plain is a type as the tests read it.
type plain struct {
	front string
	names []string
	kids  []plain
}

// plainRead is a second way to read a type: it divides texts at their outermost commas, from the outside to the inside. Limits are not asked.
func plainRead(s string) (plain, bool) {
	front, rest, isBracketed := strings.Cut(s, "[")
	p := plain{front: front}
	if !isBracketed {
		return p, slices.Contains([]string{"int", "bool", "null", "?t"}, s) || token.IsName(s)
	}
	inner, isClosed := strings.CutSuffix(rest, "]")
	switch {
	case !isClosed:
		return plain{}, false
	case front == "record" || front == "oneof":
		return p.withParts(plainSplit(inner))
	case front == "array" || token.IsName(front):
		kid, isType := plainRead(inner)
		p.kids = []plain{kid}
		return p, isType
	}
	return plain{}, false
}

func (p plain) withParts(parts []string) (plain, bool) {
	for _, part := range parts {
		name, typ, _ := strings.Cut(part, ":")
		kid, isType := plainRead(typ)
		if !isType || !token.IsName(name) {
			return plain{}, false
		}
		p.names = append(p.names, name)
		p.kids = append(p.kids, kid)
	}
	names := slices.Compact(slices.Sorted(slices.Values(p.names)))
	return p, len(parts) <= 6 && slices.Equal(names, p.names)
}

// plainSplit divides a text at the commas outside brackets.
func plainSplit(s string) []string {
	l := []string{""}
	depth := 0
	for _, b := range []byte(s) {
		switch b {
		case '[':
			depth++
		case ']':
			depth--
		}
		if b == ',' && depth == 0 {
			l = append(l, "")
			continue
		}
		l[len(l)-1] += string([]byte{b})
	}
	return l
}

func plainCheck(s string) api.Errno {
	if len(s) > 100 {
		return api.ErrLimit
	}
	p, isType := plainRead(s)
	switch {
	case !isType:
		return api.ErrForm
	case p.level() > 6:
		return api.ErrLimit
	}
	return api.OK
}

func (p plain) level() int {
	level := 1
	for _, kid := range p.kids {
		level = max(level, 1+kid.level())
	}
	return level
}

// kind returns the number that the chapter's table has.
func (p plain) kind() uint8 {
	i := slices.Index([]string{"int", "bool", "null", "array", "record", "oneof", "", "?t"}, p.front)
	if i < 0 {
		return 7
	}
	return uint8(i + 1)
}

// text writes a type; parameters are written by put, from left to right.
func (p plain) text(put func() string) string {
	if p.front == "?t" {
		return put()
	}
	var kids []string
	for i, kid := range p.kids {
		s := kid.text(put)
		if len(p.names) > 0 {
			s = p.names[i] + ":" + s
		}
		kids = append(kids, s)
	}
	if len(kids) == 0 {
		return p.front
	}
	return p.front + "[" + strings.Join(kids, ",") + "]"
}

// inside returns the types inside a type, also those that are inside it more than once.
func (p plain) inside() []plain {
	l := []plain{p}
	for _, kid := range p.kids {
		l = append(l, kid.inside()...)
	}
	return l
}

func (p plain) isOpen() bool {
	return slices.ContainsFunc(p.inside(), func(x plain) bool { return x.front == "?t" })
}

// typeNames returns the names of types inside a type.
func (p plain) typeNames() []string {
	var l []string
	for _, x := range p.inside() {
		if x.kind() == 7 && !slices.Contains(l, x.front) {
			l = append(l, x.front)
		}
	}
	slices.Sort(l)
	return l
}

// parameter writes a parameter as it is.
func parameter() string { return "?t" }

// maker makes types by chance, the same in each run.
type maker struct{ *rand.Rand }

func newMaker(seed uint64) maker { return maker{rand.New(rand.NewPCG(seed, 3))} }

func pick[T any](m maker, l ...T) T { return l[m.IntN(len(l))] }

// typ makes a type of at most so many levels.
func (m maker) typ(levels int) string {
	for {
		if s := m.text(levels); len(s) <= 100 {
			return s
		}
	}
}

func (m maker) text(levels int) string {
	if levels <= 1 || m.IntN(5) == 0 {
		return pick(m, "int", "bool", "null", "?t", "?t", "?t", "set", "t", "a1", "twelveletter")
	}
	switch m.IntN(4) {
	case 0:
		return "array[" + m.text(levels-1) + "]"
	case 1:
		return pick(m, "set", "map", "t", "a", "b9") + "[" + m.text(levels-1) + "]"
	}
	names := []string{"a", "a1", "b", "key", "t", "z"}
	var parts []string
	for len(names) > 0 && (len(parts) == 0 || m.IntN(3) > 0) {
		n := m.IntN(len(names))
		parts = append(parts, names[n]+":"+m.text(levels-1))
		names = names[n+1:]
	}
	return pick(m, "record", "oneof") + "[" + strings.Join(parts, ",") + "]"
}

// sampleTypes makes types of all sizes.
func sampleTypes(seed uint64, n int) []string {
	m := newMaker(seed)
	var l []string
	for i := range n {
		l = append(l, m.typ(1+i%6))
	}
	return l
}

// nested has some levels.
func nested(levels int) string {
	return strings.Repeat("a[", levels-1) + "int" + strings.Repeat("]", levels-1)
}

// wide is a type of two levels, open, with six parts and some number of bytes, 36 at least.
func wide(bytes int) string {
	left := bytes - len("record[a:?t,:a,:a,:a,:a,:a]") - 5
	var parts []string
	for _, first := range []string{"b", "c", "d", "e", "f"} {
		n := min(left, 22)
		left -= n
		parts = append(parts, first+strings.Repeat("x", n/2)+":a"+strings.Repeat("x", n-n/2))
	}
	return "record[a:?t," + strings.Join(parts, ",") + "]"
}

// noTypes has texts that are none, beside their errors.
func noTypes() map[string]api.Errno {
	return map[string]api.Errno{
		"": api.ErrForm, " ": api.ErrForm, "array[ int]": api.ErrForm, "record[b:int,a:int]": api.ErrForm, "record[]": api.ErrForm, "int[int]": api.ErrForm,
		"set[thirteenlette]": api.ErrForm, nested(7) + "]": api.ErrForm, "\x00": api.ErrForm, strings.Repeat("[", 100): api.ErrForm,
		nested(7): api.ErrLimit, nested(33): api.ErrLimit, wide(101): api.ErrLimit, strings.Repeat("!", 101): api.ErrLimit, strings.Repeat("a[", 1000000): api.ErrLimit,
	}
}

// isEmpty reports whether results are what they have to be beside an error.
func isEmpty(results ...any) bool {
	for _, x := range results {
		v := reflect.ValueOf(x)
		if v.Kind() == reflect.Slice && v.Len() == 0 {
			continue
		}
		if !v.IsZero() {
			return false
		}
	}
	return true
}

// asker asks a function about a type, and returns whether all results but the error are empty, and the error.
type asker func(s string) (bool, api.Errno)

// askers has all functions with types, one for each argument or part that is a type.
func askers() map[string]asker {
	return map[string]asker{
		"Check":  func(s string) (bool, api.Errno) { return true, kind.Check(s) },
		"Kind":   func(s string) (bool, api.Errno) { x, e := kind.Kind(s); return isEmpty(x), e },
		"Level":  func(s string) (bool, api.Errno) { x, e := kind.Level(s); return isEmpty(x), e },
		"Open":   func(s string) (bool, api.Errno) { x, e := kind.Open(s); return isEmpty(x), e },
		"Arg":    func(s string) (bool, api.Errno) { x, y, e := kind.Arg(s); return isEmpty(x, y), e },
		"Base":   func(s string) (bool, api.Errno) { x, e := kind.Base(s); return isEmpty(x), e },
		"Parts":  func(s string) (bool, api.Errno) { x, e := kind.Parts(s); return isEmpty(x), e },
		"Array":  func(s string) (bool, api.Errno) { x, e := kind.Array(s); return isEmpty(x), e },
		"Named":  func(s string) (bool, api.Errno) { x, e := kind.Named("a", s); return isEmpty(x), e },
		"Record": func(s string) (bool, api.Errno) { x, e := kind.Record(partsAround(s)); return isEmpty(x), e },
		"Oneof":  func(s string) (bool, api.Errno) { x, e := kind.Oneof(partsAround(s)); return isEmpty(x), e },
		"With":   func(s string) (bool, api.Errno) { x, e := kind.With(s, "int"); return isEmpty(x), e },
		"With as argument": func(s string) (bool, api.Errno) {
			x, e := kind.With("int", s)
			return isEmpty(x), e
		},
		"Match": func(s string) (bool, api.Errno) { x, y, e := kind.Match(s, "int"); return isEmpty(x, y), e },
		"Match to": func(s string) (bool, api.Errno) {
			x, y, e := kind.Match("?t", s)
			return isEmpty(x, y), e
		},
		"Inside": func(s string) (bool, api.Errno) { x, e := kind.Inside(s); return isEmpty(x), e },
		"Names":  func(s string) (bool, api.Errno) { x, e := kind.Names(s); return isEmpty(x), e },
	}
}

// partsAround has two parts with one name, so that only their types come ahead.
func partsAround(s string) []api.Part {
	return []api.Part{{Name: "b", Type: "int"}, {Name: "a", Type: s}, {Name: "b", Type: "bool"}}
}
