package face_test

import (
	"fmt"
	"reflect"
	"regexp"
	"slices"
	"strings"
	"testing"

	"argus/api"
	"argus/face"
)

var sigForm = regexp.MustCompile(`^(proc|iter)\((.*?)\)(?: (?:returns|yields) ([^ ]+))?(?: signals\((.*)\))?$`)

// sig makes a signature of its text; texts that are none are a mistake of the tests.
func sig(text string) api.Sig {
	m := sigForm.FindStringSubmatch(text)
	return api.Sig{Iter: m[1] == "iter", Args: divide(m[2]), Result: m[3], Signals: divide(m[4])}
}

// divide divides a text at its outermost commas.
func divide(s string) []string {
	var l []string
	open := 0
	for _, part := range strings.Split(s, ",") {
		if open > 0 {
			l[len(l)-1] += "," + part
		} else if s != "" {
			l = append(l, part)
		}
		open += strings.Count(part, "[") - strings.Count(part, "]")
	}
	return l
}

// need makes a need of a text like "lt proc(?t,?t) returns bool".
func need(text string) api.Need {
	name, rest, _ := strings.Cut(text, " ")
	return api.Need{Op: name, Sig: sig(rest)}
}

func needs(texts ...string) []api.Need {
	var l []api.Need
	for _, s := range texts {
		l = append(l, need(s))
	}
	return l
}

func op(text string) api.Op {
	x := need(text)
	return api.Op{Name: x.Op, Sig: x.Sig}
}

func ops(texts ...string) []api.Op {
	var l []api.Op
	for _, s := range texts {
		l = append(l, op(s))
	}
	return l
}

var kinds = map[string]uint8{"proc": api.ModProc, "iter": api.ModIter, "cluster": api.ModCluster}

// newFace makes a face of its lines.
func newFace(head string, lines ...string) api.Face {
	word, name, _ := strings.Cut(head, " ")
	f := api.Face{Kind: kinds[word]}
	f.Name, f.Param = strings.CutSuffix(name, "[t]")
	for _, line := range lines {
		if rest, isNeed := strings.CutPrefix(line, "has "); isNeed {
			f.Needs = append(f.Needs, need(rest))
		} else {
			f.Ops = append(f.Ops, op(strings.TrimPrefix(line, "op ")))
		}
	}
	return f
}

// The faces and the needs of the chapter's examples.
const (
	hasEqual = "equal proc(?t,?t) returns bool"
	hasLt    = "lt proc(?t,?t) returns bool"
)

func set() api.Face {
	return newFace("cluster set[t]", "has "+hasEqual, "op new proc() returns set[?t]", "op holds proc(set[?t],?t) returns bool")
}

func sortFace() api.Face { return newFace("proc sort[t]", "has "+hasLt, "op sort proc(array[?t])") }

func examples() []api.Face { return []api.Face{set(), sortFace()} }

// more has the faces of the examples, and others around them.
func more() []api.Face {
	return []api.Face{
		newFace("cluster bag[t]", "op new proc() returns bag[?t]", "op equal proc(bag[?t],bag[?t]) returns bool", "op all iter(bag[?t]) yields ?t signals(a,b)", "op pair proc(?t) returns record[a:?t,b:?t]", "op deep proc(array[array[array[?t]]])"),
		newFace("cluster coin", "op toss proc(coin) returns bool", "op lt proc(coin,coin) returns bool", "op equal proc(coin,coin) returns bool"),
		newFace("iter each[t]", "op each iter(array[?t]) yields ?t"),
		newFace("proc main", "op main proc(set[int]) signals(bad)"),
		set(),
		sortFace(),
		newFace("cluster tree[t]", "has "+hasEqual, "has "+hasLt, "op add proc(tree[?t],set[?t])"),
	}
}

// show writes a value; nil and empty slices are the same.
func show(v any) string {
	switch x := v.(type) {
	case api.Sig:
		return fmt.Sprintf("iter %v args %q result %q signals %q", x.Iter, x.Args, x.Result, x.Signals)
	case api.Op:
		return fmt.Sprintf("op %q %s\n", x.Name, show(x.Sig))
	case api.Need:
		return fmt.Sprintf("need %q %s\n", x.Op, show(x.Sig))
	case []api.Op:
		return join(x)
	case []api.Need:
		return join(x)
	case []api.Face:
		return join(x)
	case api.Face:
		return fmt.Sprintf("face %q kind %d param %v\n%s%s", x.Name, x.Kind, x.Param, show(x.Needs), show(x.Ops))
	}
	return fmt.Sprint(v)
}

func join[T any](l []T) string {
	var b strings.Builder
	for _, x := range l {
		b.WriteString(show(x))
	}
	return b.String()
}

func isSame[T any](a, b T) bool { return show(a) == show(b) }

// nested has some levels, and the parameter or another type in its midst.
func nested(levels int, inner string) string {
	return strings.Repeat("array[", levels-1) + inner + strings.Repeat("]", levels-1)
}

// wide is a closed type of two levels without names, with some number of bytes from 43 on.
func wide(bytes int) string {
	left := bytes - len("record[a:int,b:int,c:int,d:int,e:int,f:int]")
	var parts []string
	for _, first := range strings.Split("abcdef", "") {
		n := max(0, min(left, 11))
		left -= n
		parts = append(parts, first+strings.Repeat("x", n)+":int")
	}
	return "record[" + strings.Join(parts, ",") + "]"
}

// memory collects where the slices in values lie, with all that they have room for.
type memory struct {
	t   *testing.T
	all [][2]uintptr
}

// add adds the slices of a value; it is an error if one shares memory with those before.
func (m *memory) add(what string, v reflect.Value) {
	switch v.Kind() {
	case reflect.Struct:
		for i := range v.NumField() {
			m.add(what, v.Field(i))
		}
	case reflect.Slice:
		if v.Cap() > 0 {
			from := v.Pointer()
			to := from + uintptr(v.Cap())*v.Type().Elem().Size()
			for _, x := range m.all {
				if from < x[1] && x[0] < to {
					m.t.Errorf("R3: %s: memory is shared", what)
				}
			}
			m.all = append(m.all, [2]uintptr{from, to})
		}
		for i := range v.Len() {
			m.add(what, v.Index(i))
		}
	}
}

// apart asks whether slices in values share no memory.
func apart(t *testing.T, what string, values ...any) {
	t.Helper()
	m := &memory{t: t}
	for _, v := range values {
		m.add(what, reflect.ValueOf(v))
	}
}

// isEmpty reports whether results are what they have to be beside an error.
func isEmpty(results ...any) bool {
	for _, x := range results {
		v := reflect.ValueOf(x)
		if v.Kind() == reflect.Slice && v.Len() == 0 {
			continue
		}
		if x, isSig := x.(api.Sig); isSig && isSame(x, api.Sig{}) {
			continue
		}
		if x, isFace := x.(api.Face); isFace && isSame(x, api.Face{}) {
			continue
		}
		if !v.IsZero() {
			return false
		}
	}
	return true
}

// scope is what most functions are asked with.
type scope struct {
	faces []api.Face
	needs []api.Need
}

// asker asks a function in a scope about a type; it returns whether all results but the error are empty, and the error.
type asker func(s scope, t string) (bool, api.Errno)

// askers has all functions with needs, each asked so that nothing is wrong but the scope and the type.
func askers() map[string]asker {
	return map[string]asker{
		"Good": func(s scope, t string) (bool, api.Errno) { return true, face.Good(s.faces, s.needs, true, t) },
		"Good without a parameter": func(s scope, t string) (bool, api.Errno) {
			return true, face.Good(s.faces, s.needs, false, t)
		},
		"OpsOf": func(s scope, t string) (bool, api.Errno) {
			x, e := face.OpsOf(s.faces, s.needs, t)
			return isEmpty(x), e
		},
		"OpOf": func(s scope, t string) (bool, api.Errno) {
			x, e := face.OpOf(s.faces, s.needs, t, "equal")
			return isEmpty(x), e
		},
		"SigOf": func(s scope, t string) (bool, api.Errno) {
			x, e := face.SigOf(s.faces, s.needs, "each", t)
			return isEmpty(x), e
		},
		"Fits": func(s scope, t string) (bool, api.Errno) {
			x, y, e := face.Fits(s.faces, s.needs, needs(hasEqual), t)
			return isEmpty(x, y), e
		},
	}
}

// noLibraries has faces that are no library, beside the index and the error.
func noLibraries() map[string]refused {
	wrong := newFace("proc wrong")
	var many []api.Face
	for i := range 21 {
		name := "a" + string(rune('a'+i))
		many = append(many, newFace("proc "+name, "op "+name+" proc()"))
	}
	bag := newFace("cluster set[t]", "op new proc() returns set[?t]", "op holds proc(bag[?t],?t) returns bool")
	return map[string]refused{
		"twenty-one":         {many, 20, api.ErrLimit},
		"the last one wrong": {append(slices.Clone(many[:20]), wrong), 20, api.ErrLimit},
		"wrong":              {[]api.Face{set(), sortFace(), wrong}, 2, api.ErrFace},
		"the other order":    {[]api.Face{sortFace(), set()}, 1, api.ErrTwice},
		"twice":              {[]api.Face{set(), set()}, 1, api.ErrTwice},
		"of a bag":           {[]api.Face{bag, sortFace()}, 0, api.ErrNone},
		"sets of sets":       {[]api.Face{newFace("proc a", "op a proc(set[set[int]])"), set()}, 0, api.ErrFit},
	}
}

// refused is faces that are no library.
type refused struct {
	faces []api.Face
	at    int
	e     api.Errno
}

// noNeeds has needs that are not as said.
func noNeeds() map[string][]api.Need {
	return map[string][]api.Need{
		"five":            needs("a proc()", "b proc()", "c proc()", "d proc()", "e proc()"),
		"descending":      needs("b proc()", "a proc()"),
		"twice":           needs("a proc()", "a proc()"),
		"a reserved word": needs("mod proc()"),
		"a pair":          needs("get_a proc()"),
		"no name":         {{Op: "", Sig: sig("proc()")}},
		"no type":         needs("a proc(int,array[])"),
		"no result":       needs("a iter(int)"),
		"the second one":  needs("a proc()", "b proc(?u)"),
		"no signal":       needs("a proc() signals(b,a)"),
	}
}
