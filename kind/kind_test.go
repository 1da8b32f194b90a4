package kind_test

import (
	"slices"
	"strings"
	"testing"

	"argus/api"
	"argus/kind"
)

func TestCheck(t *testing.T) {
	for s, want := range map[string]api.Errno{
		"array[int]": api.OK, "array[ int]": api.ErrForm, "record[b:int,a:int]": api.ErrForm, "record[]": api.ErrForm, "set[?t]": api.OK, "int[int]": api.ErrForm,
		"int": api.OK, "bool": api.OK, "null": api.OK, "?t": api.OK, "t": api.OK, "set": api.OK, "t[t]": api.OK, "twelveletter[twelveletter]": api.OK, "z9": api.OK,
		"oneof[a:null]": api.OK, "record[t:?t]": api.OK, "record[a:int,b:int]": api.OK, "record[a:int,a1:int,aa:int,b:int]": api.OK, "set[record[a:?t]]": api.OK, "record[record1:int]": api.OK,
		"": api.ErrForm, " ": api.ErrForm, " int": api.ErrForm, "int ": api.ErrForm, "int\n": api.ErrForm, "\tint": api.ErrForm, "int%": api.ErrForm, "array[int] ": api.ErrForm, "array [int]": api.ErrForm, "array[int ]": api.ErrForm,
		"record[a: int]": api.ErrForm, "record[a :int]": api.ErrForm, "record[ a:int]": api.ErrForm, "record[a:int, b:int]": api.ErrForm, "? t": api.ErrForm, "set[? t]": api.ErrForm,
		"array": api.ErrForm, "array[]": api.ErrForm, "array[int": api.ErrForm, "array[int]]": api.ErrForm, "array[int][int]": api.ErrForm, "array[int,int]": api.ErrForm, "array[a:int]": api.ErrForm, "array]": api.ErrForm, "arrayint]": api.ErrForm,
		"record": api.ErrForm, "oneof": api.ErrForm, "oneof[]": api.ErrForm, "record[int]": api.ErrForm, "record[a]": api.ErrForm, "record[a:]": api.ErrForm, "record[:int]": api.ErrForm, "record[a::int]": api.ErrForm, "record[a:b:int]": api.ErrForm, "record[a:int": api.ErrForm,
		"record[a:int,]": api.ErrForm, "record[,a:int]": api.ErrForm, "record[a:int,,b:int]": api.ErrForm, "record[a:int b:int]": api.ErrForm, "record[a:int;b:int]": api.ErrForm, "record[a:int]]": api.ErrForm,
		"record[a:int,a:int]": api.ErrForm, "oneof[a:int,a:bool]": api.ErrForm, "oneof[b:int,a:int]": api.ErrForm, "record[aa:int,a1:int]": api.ErrForm, "record[a:int,c:int,b:int]": api.ErrForm, "array[record[b:int,a:int]]": api.ErrForm,
		"record[if:int]": api.ErrForm, "record[int:int]": api.ErrForm, "record[1:int]": api.ErrForm, "record[?t:int]": api.ErrForm, "record[A:int]": api.ErrForm, "record[thirteenlette:int]": api.ErrForm, "record[a_b:int]": api.ErrForm,
		"?": api.ErrForm, "?u": api.ErrForm, "??t": api.ErrForm, "?tt": api.ErrForm, "?t?t": api.ErrForm, "t?": api.ErrForm, "?t[int]": api.ErrForm, "bool[int]": api.ErrForm, "null[int]": api.ErrForm, "?t]": api.ErrForm, "?T": api.ErrForm,
		"set[]": api.ErrForm, "set[int,int]": api.ErrForm, "set[a:int]": api.ErrForm, "set[int][int]": api.ErrForm, "set{int}": api.ErrForm, "set(int)": api.ErrForm, "(int)": api.ErrForm, "set[1]": api.ErrForm, "[int]": api.ErrForm, "[]": api.ErrForm, "]": api.ErrForm, "int]": api.ErrForm, "set]int[": api.ErrForm,
		"int,bool": api.ErrForm, "int:bool": api.ErrForm, ",": api.ErrForm, ":": api.ErrForm, "a:int": api.ErrForm, "if": api.ErrForm, "nil": api.ErrForm, "cluster": api.ErrForm, "if[int]": api.ErrForm, "rep": api.ErrForm, "1": api.ErrForm, "1a": api.ErrForm,
		"Int": api.ErrForm, "a_b": api.ErrForm, "a.b": api.ErrForm, "a$b": api.ErrForm, "thirteenlette": api.ErrForm, "thirteenlette[int]": api.ErrForm, "set[thirteenlette]": api.ErrForm, "\x00": api.ErrForm, "int\x00": api.ErrForm, "\xff": api.ErrForm, "caf\u00e9": api.ErrForm, "\u0430": api.ErrForm,
	} {
		if e := kind.Check(s); e != want || e != plainCheck(s) {
			t.Errorf("%q: %d, %d", s, e, plainCheck(s))
		}
	}
}

func TestCheckOfNumbersOfParts(t *testing.T) {
	six := "a:int,b:int,c:int,d:int,e:int,f:int"
	for s, want := range map[string]api.Errno{
		"record[" + six + "]": api.OK, "oneof[" + six + "]": api.OK, "array[record[" + six + "]]": api.OK,
		"record[" + six + ",g:int]": api.ErrForm, "oneof[" + six + ",g:int]": api.ErrForm, "array[oneof[" + six + ",g:int]]": api.ErrForm, "record[a:record[" + six + ",g:int]]": api.ErrForm,
	} {
		if e := kind.Check(s); e != want {
			t.Errorf("%q: %d", s, e)
		}
	}
}

func TestCheckOfLimits(t *testing.T) {
	for s, want := range map[string]api.Errno{
		wide(99): api.OK, wide(100): api.OK, wide(101): api.ErrLimit, nested(6): api.OK, nested(7): api.ErrLimit, nested(30): api.ErrLimit,
		"array[" + nested(5) + "]": api.OK, "array[" + nested(6) + "]": api.ErrLimit, "record[a:" + nested(5) + ",b:int]": api.OK, "record[a:int,b:" + nested(6) + "]": api.ErrLimit, "oneof[a:" + nested(6) + "]": api.ErrLimit,
		// What is too long is not read; what has too many levels is.
		strings.Repeat("!", 101): api.ErrLimit, nested(7) + "]": api.ErrForm, nested(32) + " ": api.ErrForm, "record[b:" + nested(7) + ",a:int]": api.ErrForm, "record[a:" + nested(6) + ",b:]": api.ErrForm, strings.Repeat("a[", 50): api.ErrForm, strings.Repeat("!", 100): api.ErrForm,
		strings.Repeat("a[", 1000000): api.ErrLimit, strings.Repeat("int", 1000000): api.ErrLimit, strings.Repeat("\xff", 1000000): api.ErrLimit,
	} {
		if e := kind.Check(s); e != want {
			t.Errorf("%.110q: %d", s, e)
		}
	}
	for n := range 160 {
		if s := strings.Repeat("a", n); kind.Check(s) != plainCheck(s) {
			t.Errorf("a name of %d letters: %d", n, kind.Check(s))
		}
	}
}

// eachText calls do for all texts of up to some pieces.
func eachText(pieces []string, most int, do func(string)) {
	texts := []string{""}
	for range most {
		var longer []string
		for _, s := range texts {
			for _, piece := range pieces {
				do(s + piece)
				longer = append(longer, s+piece)
			}
		}
		texts = longer
	}
}

func TestCheckOfAllShortTexts(t *testing.T) {
	types := 0
	ask := func(s string) {
		e := kind.Check(s)
		if e != plainCheck(s) {
			t.Fatalf("%q: %d", s, e)
		}
		if e == api.OK {
			types++
		}
	}
	eachText(strings.Fields("int ?t a b record[ oneof[ array[ set[ ] : , ["), 5, ask)
	eachText(strings.Fields("a:int , b:?t record[ ] set["), 6, ask)
	if types < 500 {
		t.Errorf("only %d are types", types)
	}
}

func TestCheckOfTextsWithAFlaw(t *testing.T) {
	m := newMaker(5)
	types := 0
	for _, s := range sampleTypes(6, 20000) {
		if e := kind.Check(s); e != api.OK || plainCheck(s) != api.OK {
			t.Fatalf("%q: %d", s, e)
		}
		from := m.IntN(len(s) + 1)
		to := min(from+m.IntN(3), len(s))
		s = s[:from] + pick(m, "", "", "[", "]", ",", ":", " ", "?", "?t", "a", "1", "T", "int", "array[", "\x80") + s[to:]
		e := kind.Check(s)
		if e != plainCheck(s) {
			t.Fatalf("%q: %d", s, e)
		}
		if e == api.OK {
			types++
		}
	}
	if types < 2000 || types > 15000 {
		t.Errorf("%d of 20000 are types: too one-sided", types)
	}
}

func TestKind(t *testing.T) {
	for s, want := range map[string]uint8{
		"int": 1, "bool": 2, "null": 3, "array[?t]": 4, "record[a:int]": 5, "oneof[a:int]": 6, "set[?t]": 7, "set": 7, "t": 7, "?t": 8, "array[set]": 4, "record[a:oneof[b:int]]": 5, "oneof[a:?t]": 6, "ints": 7, "arrays[int]": 7,
	} {
		if n, e := kind.Kind(s); n != want || e != api.OK {
			t.Errorf("%q: %d, %d", s, n, e)
		}
	}
}

func TestLevelAndOpen(t *testing.T) {
	for s, want := range map[string]struct {
		level  int
		isOpen bool
	}{
		"record[a:array[int],b:?t]": {3, true}, "int": {1, false}, "?t": {1, true}, "t": {1, false}, "t[t]": {2, false}, "t[?t]": {2, true}, "record[t:int]": {2, false}, "oneof[a:int,b:bool,c:null]": {2, false},
		"record[a:?t,b:int]": {2, true}, "record[a:int,b:array[array[?t]],c:array[int]]": {4, true}, "record[a:array[array[int]],b:int]": {4, false}, nested(6): {6, false}, "a[a[a[a[a[?t]]]]]": {6, true},
	} {
		if n, e := kind.Level(s); n != want.level || e != api.OK {
			t.Errorf("Level of %q: %d, %d", s, n, e)
		}
		if isOpen, e := kind.Open(s); isOpen != want.isOpen || e != api.OK {
			t.Errorf("Open of %q: %v, %d", s, isOpen, e)
		}
	}
}

func TestArg(t *testing.T) {
	for s, want := range map[string]struct {
		arg    string
		hasArg bool
		e      api.Errno
	}{
		"set[?t]": {"?t", true, api.OK}, "set": {"", false, api.OK}, "t": {"", false, api.OK}, "array[int]": {"int", true, api.OK}, "array[array[?t]]": {"array[?t]", true, api.OK}, "set[record[a:int,b:set[int]]]": {"record[a:int,b:set[int]]", true, api.OK}, nested(6): {nested(5), true, api.OK},
		"int": {e: api.ErrKind}, "bool": {e: api.ErrKind}, "null": {e: api.ErrKind}, "?t": {e: api.ErrKind}, "record[a:int]": {e: api.ErrKind}, "oneof[a:array[int]]": {e: api.ErrKind},
	} {
		if arg, hasArg, e := kind.Arg(s); arg != want.arg || hasArg != want.hasArg || e != want.e {
			t.Errorf("%q: %q, %v, %d", s, arg, hasArg, e)
		}
	}
}

func TestBase(t *testing.T) {
	for s, want := range map[string]string{
		"set[?t]": "set", "set": "set", "t": "t", "t[t[t]]": "t", "twelveletter[a[b]]": "twelveletter",
		"int": "", "bool": "", "null": "", "?t": "", "array[set]": "", "record[a:set]": "", "oneof[a:set]": "",
	} {
		e := api.OK
		if want == "" {
			e = api.ErrKind
		}
		if base, got := kind.Base(s); base != want || got != e {
			t.Errorf("%q: %q, %d", s, base, got)
		}
	}
}

func TestParts(t *testing.T) {
	for s, want := range map[string][]api.Part{
		"record[a:int]":                                {{Name: "a", Type: "int"}},
		"oneof[a:?t,b:array[?t],t:t]":                  {{Name: "a", Type: "?t"}, {Name: "b", Type: "array[?t]"}, {Name: "t", Type: "t"}},
		"record[a:record[b:int,c:bool],z:a]":           {{Name: "a", Type: "record[b:int,c:bool]"}, {Name: "z", Type: "a"}},
		"record[a:int,b:int,c:int,d:int,e:int,f:null]": {{Name: "a", Type: "int"}, {Name: "b", Type: "int"}, {Name: "c", Type: "int"}, {Name: "d", Type: "int"}, {Name: "e", Type: "int"}, {Name: "f", Type: "null"}},
	} {
		if l, e := kind.Parts(s); !slices.Equal(l, want) || e != api.OK {
			t.Errorf("%q: %v, %d", s, l, e)
		}
	}
	for _, s := range []string{"int", "bool", "null", "?t", "t", "array[record[a:int]]", "set", "set[record[a:int]]"} {
		if l, e := kind.Parts(s); len(l) > 0 || e != api.ErrKind {
			t.Errorf("%q: %v, %d", s, l, e)
		}
	}
}

func TestInside(t *testing.T) {
	for s, want := range map[string][]string{
		"record[a:array[int],b:int]":       {"record[a:array[int],b:int]", "array[int]", "int"},
		"int":                              {"int"},
		"t":                                {"t"},
		"t[t[?t]]":                         {"t[t[?t]]", "t[?t]", "?t"},
		"t[t]":                             {"t[t]", "t"},
		"record[a:int,b:array[int],c:int]": {"record[a:int,b:array[int],c:int]", "int", "array[int]"},
		"oneof[a:array[set[int]],b:set[int],c:bool]":                 {"oneof[a:array[set[int]],b:set[int],c:bool]", "array[set[int]]", "set[int]", "int", "bool"},
		"oneof[b:set[int],c:array[set[int]],z:record[a:null,b:set]]": {"oneof[b:set[int],c:array[set[int]],z:record[a:null,b:set]]", "set[int]", "int", "array[set[int]]", "record[a:null,b:set]", "null", "set"},
	} {
		if l, e := kind.Inside(s); !slices.Equal(l, want) || e != api.OK {
			t.Errorf("%q: %q, %d", s, l, e)
		}
	}
}

func TestNames(t *testing.T) {
	for s, want := range map[string]string{
		"set[map[?t]]": "map set", "int": "", "?t": "", "array[bool]": "", "record[a:int,t:?t]": "", "set": "set", "t[t[t]]": "t", "record[a:z,b:y,c:x[y[z]]]": "x y z", "oneof[b:array[b],c:array[a1],d:aa,e:a]": "a a1 aa b",
	} {
		if l, e := kind.Names(s); !slices.Equal(l, strings.Fields(want)) || e != api.OK {
			t.Errorf("%q: %q, %d", s, l, e)
		}
	}
}

// What is read agrees with what the plain way reads.
func TestTypesAreTakenApart(t *testing.T) {
	for _, s := range sampleTypes(1, 5000) {
		p, _ := plainRead(s)
		if n, e := kind.Kind(s); n != p.kind() || e != api.OK {
			t.Fatalf("Kind of %q: %d, %d", s, n, e)
		}
		if n, e := kind.Level(s); n != p.level() || e != api.OK {
			t.Fatalf("Level of %q: %d, %d", s, n, e)
		}
		if isOpen, e := kind.Open(s); isOpen != p.isOpen() || e != api.OK {
			t.Fatalf("Open of %q: %v, %d", s, isOpen, e)
		}
		var inside []string
		for _, x := range p.inside() {
			if y := x.text(parameter); !slices.Contains(inside, y) {
				inside = append(inside, y)
			}
		}
		if l, e := kind.Inside(s); !slices.Equal(l, inside) || e != api.OK {
			t.Fatalf("Inside of %q: %q, %d", s, l, e)
		}
		if l, e := kind.Names(s); !slices.Equal(l, p.typeNames()) || e != api.OK {
			t.Fatalf("Names of %q: %q, %d", s, l, e)
		}
	}
}

// P3.5, the first half.
func TestWhatIsInsideHasFewerLevels(t *testing.T) {
	for _, s := range sampleTypes(2, 3000) {
		l, e := kind.Inside(s)
		if e != api.OK || len(l) == 0 || l[0] != s {
			t.Fatalf("Inside of %q: %q, %d", s, l, e)
		}
		top, _ := kind.Level(s)
		for _, x := range l[1:] {
			if n, e := kind.Level(x); e != api.OK || n >= top {
				t.Fatalf("P3.5: %q inside %q: %d of %d levels, %d", x, s, n, top, e)
			}
		}
	}
}
