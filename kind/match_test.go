package kind_test

import (
	"strings"
	"testing"

	"argus/api"
	"argus/kind"
)

// matched is the result of Match.
type matched struct {
	arg     string
	isFound bool
	e       api.Errno
}

func match(pattern, t string) matched {
	arg, isFound, e := kind.Match(pattern, t)
	return matched{arg, isFound, e}
}

func TestMatch(t *testing.T) {
	for pair, want := range map[[2]string]string{
		{"array[?t]", "array[set[int]]"}: "set[int]", {"record[a:?t,b:?t]", "record[a:int,b:bool]"}: "", {"record[a:?t,b:?t]", "record[a:int,b:int]"}: "int",
		{"?t", "int"}: "int", {"?t", "?t"}: "?t", {"?t", nested(6)}: nested(6), {"?t", wide(100)}: wide(100), {"set[?t]", "set[?t]"}: "?t", {"set[?t]", "set[set[?t]]"}: "set[?t]", {"set[?t]", "set"}: "", {"set[?t]", "map[int]"}: "", {"set[?t]", "array[int]"}: "", {"array[?t]", "int"}: "", {"array[?t]", "?t"}: "", {"array[?t]", "arrays"}: "",
		{"record[a:?t]", "oneof[a:int]"}: "", {"record[a:?t]", "record[b:int]"}: "", {"record[a:?t]", "record[a:int,b:int]"}: "", {"record[a:?t,b:int]", "record[a:int]"}: "", {"record[a:?t,b:int]", "record[a:bool,b:int]"}: "bool", {"record[a:?t,b:int]", "record[a:bool,b:bool]"}: "", {"record[a:int,b:?t]", "record[a:bool,b:int]"}: "", {"record[a:?t,c:int]", "record[a:int,b:int]"}: "",
		{"record[a:?t,b:array[?t]]", "record[a:array[?t],b:array[array[?t]]]"}: "array[?t]", {"record[a:?t,b:array[?t]]", "record[a:array[?t],b:array[?t]]"}: "", {"record[a:?t,b:array[?t]]", "record[a:int,b:int]"}: "", {"record[a:array[?t],b:?t]", "record[a:array[int],b:bool]"}: "",
		{"record[a:?t,b:set[?t],c:?t]", "record[a:int,b:set[int],c:int]"}: "int", {"record[a:?t,b:set[?t],c:?t]", "record[a:int,b:set[int],c:bool]"}: "", {"record[a:?t,b:set[?t],c:?t]", "record[a:int,b:set[bool],c:int]"}: "", {"record[a:?t,b:set[?t],c:?t]", "record[a:bool,b:set[int],c:int]"}: "", {"record[a:?t,b:?t,c:?t]", "record[a:int,b:bool,c:int]"}: "",
		{"map[record[k:int,v:?t]]", "map[record[k:int,v:array[t]]]"}: "array[t]", {"map[record[k:t,v:?t]]", "map[record[k:t,v:t]]"}: "t", {"t[?t]", "t[t]"}: "t",
	} {
		if got := match(pair[0], pair[1]); got != (matched{want, want != "", api.OK}) {
			t.Errorf("%q: %v", pair, got)
		}
	}
}

func TestMatchOfClosedPatterns(t *testing.T) {
	for pair, want := range map[[2]string]bool{
		{"int", "int"}: true, {"int", "bool"}: false, {"int", "?t"}: false, {"t", "t"}: true, {"t", "?t"}: false, {"t", "t[t]"}: false, {"set", "set[int]"}: false, {"set[int]", "set"}: false, {"array[int]", "array[int]"}: true, {"array[int]", "array[?t]"}: false, {"array[t]", "array[int]"}: false,
		{"record[a:int]", "record[a:int]"}: true, {"record[a:int]", "oneof[a:int]"}: false, {"record[a:int]", "record[a:int,b:int]"}: false, {nested(6), nested(6)}: true, {nested(5), nested(6)}: false,
	} {
		if got := match(pair[0], pair[1]); got != (matched{"", want, api.OK}) {
			t.Errorf("%q: %v", pair, got)
		}
	}
}

func TestErrorsOfMatch(t *testing.T) {
	for pair, want := range map[[2]string]api.Errno{
		{"", "int"}: api.ErrForm, {"?t", ""}: api.ErrForm, {"!", nested(7)}: api.ErrForm, {nested(7), "!"}: api.ErrLimit, {wide(101), ""}: api.ErrLimit, {"", wide(101)}: api.ErrForm, {"?t", wide(101)}: api.ErrLimit, {"?t", nested(7)}: api.ErrLimit, {"int", "!"}: api.ErrForm, {"!", "!"}: api.ErrForm, {"array[?t]", "array[]"}: api.ErrForm,
	} {
		if got := match(pair[0], pair[1]); got != (matched{e: want}) {
			t.Errorf("%.110q: %v", pair, got)
		}
	}
}

// P3.3: of what is inside a type, Match finds what With of the pattern makes that type of.
func askMatch(t *testing.T, pattern, typ string) bool {
	t.Helper()
	want := matched{}
	if isOpen, _ := kind.Open(pattern); isOpen {
		inside, _ := kind.Inside(typ)
		for _, x := range inside {
			if makeWith(pattern, x) == (made{typ, api.OK}) {
				if want.isFound {
					t.Fatalf("P3.3: %q, %q: both %q and %q", pattern, typ, want.arg, x)
				}
				want = matched{x, true, api.OK}
			}
		}
	} else {
		want.isFound = pattern == typ
	}
	if got := match(pattern, typ); got != want {
		t.Fatalf("P3.3: %q, %q: %v, not %v", pattern, typ, got, want)
	}
	return want.isFound
}

func TestMatchFindsWhatWasPutIn(t *testing.T) {
	m := newMaker(21)
	for range 5000 {
		s, a := m.typ(4), m.typ(3)
		put := makeWith(s, a)
		if put.e == api.OK && !askMatch(t, s, put.t) {
			t.Fatalf("P3.3: %q, %q", s, put.t)
		}
	}
}

// Different types, or almost the same, are put in the places of one parameter.
func TestMatchOfSeveralPlaces(t *testing.T) {
	m := newMaker(22)
	found, missed := 0, 0
	for range 5000 {
		s, a, b := m.typ(3), m.typ(2), m.typ(2)
		p, _ := plainRead(s)
		typ := p.text(func() string { return pick(m, a, a, b) })
		if kind.Check(typ) != api.OK || strings.Count(s, "?t") < 2 {
			continue
		}
		if askMatch(t, s, typ) {
			found++
		} else {
			missed++
		}
	}
	if found < 100 || missed < 100 {
		t.Errorf("%d found, %d missed: too one-sided", found, missed)
	}
}

func TestMatchOfSmallTypes(t *testing.T) {
	var types []string
	eachText(strings.Fields("int ?t a record[a: oneof[a: array[ a[ ] ,b:"), 4, func(s string) {
		if kind.Check(s) == api.OK {
			types = append(types, s)
		}
	})
	for _, pattern := range types {
		for _, s := range types {
			askMatch(t, pattern, s)
		}
	}
	if len(types) < 50 {
		t.Errorf("only %d types", len(types))
	}
}
