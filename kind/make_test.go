package kind_test

import (
	"slices"
	"strings"
	"testing"

	"argus/api"
	"argus/kind"
)

// made is the result of a function that makes a type.
type made struct {
	t string
	e api.Errno
}

func makeWith(t, arg string) made {
	s, e := kind.With(t, arg)
	return made{s, e}
}

func TestArray(t *testing.T) {
	for s, want := range map[string]made{
		"int": {"array[int]", api.OK}, "?t": {"array[?t]", api.OK}, "array[set[int]]": {"array[array[set[int]]]", api.OK}, "record[a:int,b:?t]": {"array[record[a:int,b:?t]]", api.OK},
		nested(5): {"array[" + nested(5) + "]", api.OK}, nested(6): {"", api.ErrLimit}, nested(7): {"", api.ErrLimit},
		wide(93): {"array[" + wide(93) + "]", api.OK}, wide(94): {"", api.ErrLimit}, wide(100): {"", api.ErrLimit}, wide(101): {"", api.ErrLimit},
		"": {"", api.ErrForm}, "array": {"", api.ErrForm}, "int]": {"", api.ErrForm}, "int],array[int": {"", api.ErrForm}, "int,int": {"", api.ErrForm},
	} {
		if got, e := kind.Array(s); got != want.t || e != want.e {
			t.Errorf("%q: %q, %d", s, got, e)
		}
	}
}

func TestNamed(t *testing.T) {
	for pair, want := range map[[2]string]made{
		{"set", ""}: {"set", api.OK}, {"t", ""}: {"t", api.OK}, {"twelveletter", ""}: {"twelveletter", api.OK}, {"set", "int"}: {"set[int]", api.OK}, {"set", "?t"}: {"set[?t]", api.OK}, {"t", "t[t]"}: {"t[t[t]]", api.OK}, {"map", "record[a:int]"}: {"map[record[a:int]]", api.OK},
		{"", ""}: {"", api.ErrArg}, {"", "int"}: {"", api.ErrArg}, {"int", ""}: {"", api.ErrArg}, {"array", "int"}: {"", api.ErrArg}, {"record", ""}: {"", api.ErrArg}, {"if", "int"}: {"", api.ErrArg}, {"?t", ""}: {"", api.ErrArg}, {"set[int]", ""}: {"", api.ErrArg}, {"thirteenlette", ""}: {"", api.ErrArg}, {"Set", ""}: {"", api.ErrArg}, {"a b", ""}: {"", api.ErrArg}, {"1", ""}: {"", api.ErrArg}, {"a_b", "int"}: {"", api.ErrArg},
		// The name comes ahead of the argument.
		{"if", "!"}: {"", api.ErrArg}, {"", wide(101)}: {"", api.ErrArg}, {strings.Repeat("a", 1000000), "int"}: {"", api.ErrArg},
		{"set", "!"}: {"", api.ErrForm}, {"set", " "}: {"", api.ErrForm}, {"set", "int]"}: {"", api.ErrForm}, {"set", "int][int"}: {"", api.ErrForm}, {"set", wide(101)}: {"", api.ErrLimit}, {"set", nested(7)}: {"", api.ErrLimit},
		{"set", nested(5)}: {"set[" + nested(5) + "]", api.OK}, {"set", nested(6)}: {"", api.ErrLimit}, {"set", wide(95)}: {"set[" + wide(95) + "]", api.OK}, {"set", wide(96)}: {"", api.ErrLimit}, {"twelveletter", wide(86)}: {"twelveletter[" + wide(86) + "]", api.OK}, {"twelveletter", wide(87)}: {"", api.ErrLimit},
	} {
		if got, e := kind.Named(pair[0], pair[1]); got != want.t || e != want.e {
			t.Errorf("%.110q: %q, %d", pair, got, e)
		}
	}
}

// parts makes parts of a text that has their names and types by turns.
func parts(s string) []api.Part {
	words := strings.Fields(s)
	var l []api.Part
	for i := 0; i+1 < len(words); i += 2 {
		l = append(l, api.Part{Name: words[i], Type: words[i+1]})
	}
	return l
}

// askRecordAndOneof asks both functions for the same: the inner text of the type, or the error.
func askRecordAndOneof(t *testing.T, l []api.Part, inner string, want api.Errno) {
	t.Helper()
	for front, join := range map[string]func([]api.Part) (string, api.Errno){"record": kind.Record, "oneof": kind.Oneof} {
		text := ""
		if want == api.OK {
			text = front + "[" + inner + "]"
		}
		before := slices.Clone(l)
		if got, e := join(l); got != text || e != want {
			t.Errorf("%s of %.200q: %q, %d", front, l, got, e)
		}
		if !slices.Equal(l, before) {
			t.Errorf("R3: %s changes %v to %v", front, before, l)
		}
	}
}

func TestRecordAndOneof(t *testing.T) {
	for s, want := range map[string]string{
		"b int a ?t": "a:?t,b:int", "a int": "a:int", "t t": "t:t", "c int b bool a null": "a:null,b:bool,c:int", "a int b bool": "a:int,b:bool", "aa int a1 int a int b int": "a:int,a1:int,aa:int,b:int",
		"f int e int d int c int b int a set[?t]": "a:set[?t],b:int,c:int,d:int,e:int,f:int", "b record[a:int] a oneof[b:int]": "a:oneof[b:int],b:record[a:int]", "z " + nested(5): "z:" + nested(5), "twelveletter a": "twelveletter:a",
	} {
		askRecordAndOneof(t, parts(s), want, api.OK)
	}
}

func TestErrorsOfRecordAndOneof(t *testing.T) {
	for s, want := range map[string]api.Errno{
		"": api.ErrArg, "a int b int c int d int e int f int g int": api.ErrArg, "a int a int a int a int a int a int a int": api.ErrArg,
		"if int": api.ErrArg, "A int": api.ErrArg, "thirteenlette int": api.ErrArg, "?t int": api.ErrArg, "int int": api.ErrArg, "a int b_c int": api.ErrArg, "a: int": api.ErrArg,
		"a int a int": api.ErrTwice, "a int b int a bool": api.ErrTwice, "b int a int b int a int": api.ErrTwice, "a int b int c int d int e int a null": api.ErrTwice,
		"a !": api.ErrForm, "a int b record[]": api.ErrForm, "a int,b:int": api.ErrForm, "b int] a int": api.ErrForm, "a " + nested(7): api.ErrLimit, "a " + nested(6): api.ErrLimit, "a int b " + nested(6): api.ErrLimit, "a " + wide(101): api.ErrLimit,
		// Names come ahead of types, types ahead of pairs, and pairs ahead of limits; of the types the first one decides.
		"a ! if int": api.ErrArg, "a int a ! 1 int": api.ErrArg, "a int b ! a int": api.ErrForm, "a int a " + nested(7): api.ErrLimit, "b ! a " + nested(7): api.ErrForm, "b " + nested(7) + " a !": api.ErrLimit,
		"a " + nested(6) + " a int": api.ErrTwice, "a " + wide(100) + " b int b int": api.ErrTwice, "a ! b int c int d int e int f int g int": api.ErrArg,
	} {
		askRecordAndOneof(t, parts(s), "", want)
	}
	askRecordAndOneof(t, []api.Part{{}}, "", api.ErrArg)
	askRecordAndOneof(t, []api.Part{{Name: "a"}}, "", api.ErrForm)
	askRecordAndOneof(t, []api.Part{}, "", api.ErrArg)
	askRecordAndOneof(t, make([]api.Part, 1000000), "", api.ErrArg)
	askRecordAndOneof(t, []api.Part{{Name: strings.Repeat("a", 1000000), Type: "int"}}, "", api.ErrArg)
}

func TestLongRecordsAndOneofs(t *testing.T) {
	for n, want := range map[int]struct{ record, oneof api.Errno }{89: {api.OK, api.OK}, 90: {api.OK, api.OK}, 91: {api.ErrLimit, api.OK}, 92: {api.ErrLimit, api.ErrLimit}} {
		l := []api.Part{{Name: "a", Type: wide(n)}}
		if s, e := kind.Record(l); e != want.record || e == api.OK && s != "record[a:"+wide(n)+"]" {
			t.Errorf("a record around %d bytes: %q, %d", n, s, e)
		}
		if s, e := kind.Oneof(l); e != want.oneof || e == api.OK && s != "oneof[a:"+wide(n)+"]" {
			t.Errorf("a oneof around %d bytes: %q, %d", n, s, e)
		}
	}
}

func TestWith(t *testing.T) {
	for pair, want := range map[[2]string]made{
		{"record[a:?t,b:array[?t]]", "set[int]"}:                {"record[a:set[int],b:array[set[int]]]", api.OK},
		{"array[array[array[?t]]]", "array[array[array[int]]]"}: {"", api.ErrLimit}, {"array[array[array[?t]]]", "array[array[int]]"}: {"array[array[array[array[array[int]]]]]", api.OK},
		{"?t", "int"}: {"int", api.OK}, {"?t", "?t"}: {"?t", api.OK}, {"?t", nested(6)}: {nested(6), api.OK}, {"?t", wide(100)}: {wide(100), api.OK}, {"int", "bool"}: {"int", api.OK}, {"t", "int"}: {"t", api.OK}, {"t[t]", "int"}: {"t[t]", api.OK}, {"record[t:t]", "int"}: {"record[t:t]", api.OK}, {"t[?t]", "t"}: {"t[t]", api.OK}, {"record[t:?t]", "int"}: {"record[t:int]", api.OK},
		{"set[?t]", "set[?t]"}: {"set[set[?t]]", api.OK}, {"array[?t]", "record[a:?t,b:?t]"}: {"array[record[a:?t,b:?t]]", api.OK}, {"oneof[a:?t,b:int,c:set[?t]]", "null"}: {"oneof[a:null,b:int,c:set[null]]", api.OK}, {"record[a:?t,b:?t,c:?t,d:?t,e:?t,f:?t]", "?t"}: {"record[a:?t,b:?t,c:?t,d:?t,e:?t,f:?t]", api.OK},
		{nested(6), nested(6)}: {nested(6), api.OK}, {wide(100), "?t"}: {wide(100), api.OK}, {wide(100), "a"}: {"", api.OK}, {wide(99), "int"}: {"", api.OK}, {wide(100), "int"}: {"", api.ErrLimit}, {wide(36), wide(67)}: {"", api.ErrLimit}, {wide(36), wide(66)}: {"", api.OK}, {"record[a:?t,b:?t]", wide(50)}: {"", api.ErrLimit}, {"record[a:?t,b:?t]", wide(43)}: {"", api.OK}, {"record[a:?t,b:?t]", wide(44)}: {"", api.ErrLimit}, {"a[a[a[a[a[?t]]]]]", "a[a]"}: {"", api.ErrLimit},
		{"", "int"}: {"", api.ErrForm}, {"int", ""}: {"", api.ErrForm}, {"int", "!"}: {"", api.ErrForm}, {"?t", "array[ int]"}: {"", api.ErrForm}, {"?u", "int"}: {"", api.ErrForm}, {"int", nested(7)}: {"", api.ErrLimit}, {"int", wide(101)}: {"", api.ErrLimit},
		// The type comes ahead of the argument.
		{"!", nested(7)}: {"", api.ErrForm}, {nested(7), "!"}: {"", api.ErrLimit}, {"!", wide(101)}: {"", api.ErrForm}, {wide(101), "!"}: {"", api.ErrLimit},
	} {
		if want.t == "" && want.e == api.OK {
			want.t = strings.ReplaceAll(pair[0], "?t", pair[1])
		}
		if got := makeWith(pair[0], pair[1]); got != want {
			t.Errorf("%q: %q, %d", pair, got.t, got.e)
		}
	}
}

func TestWithPutsInEverywhere(t *testing.T) {
	args := sampleTypes(12, 3000)
	full := 0
	for i, s := range sampleTypes(11, 3000) {
		p, _ := plainRead(s)
		want := made{t: p.text(func() string { return args[i] })}
		if want.e = plainCheck(want.t); want.e != api.OK {
			want.t = ""
			full++
		}
		if got := makeWith(s, args[i]); got != want {
			t.Fatalf("With of %q, %q: %q, %d", s, args[i], got.t, got.e)
		}
	}
	if full < 100 || full > 2000 {
		t.Errorf("%d of 3000 are too large: too one-sided", full)
	}
}

// P3.2.
func TestPuttingIn(t *testing.T) {
	m := newMaker(13)
	compared := 0
	for range 20000 {
		s, a, b := m.typ(3), m.typ(3), m.typ(2)
		if got := makeWith("?t", a); got != (made{a, api.OK}) {
			t.Fatalf("P3.2: With of the parameter and %q: %q, %d", a, got.t, got.e)
		}
		if got := makeWith(s, "?t"); got != (made{s, api.OK}) {
			t.Fatalf("P3.2: With of %q and the parameter: %q, %d", s, got.t, got.e)
		}
		if isOpen, _ := kind.Open(s); !isOpen && makeWith(s, a) != (made{s, api.OK}) {
			t.Fatalf("P3.2: With of %q and %q", s, a)
		}
		first, second := makeWith(s, a), makeWith(a, b)
		if first.e != api.OK || second.e != api.OK {
			continue
		}
		left, right := makeWith(first.t, b), makeWith(s, second.t)
		if left.e == api.OK && right.e == api.OK {
			compared++
		}
		if left != right {
			t.Fatalf("P3.2: %q, %q, %q: %v, %v", s, a, b, left, right)
		}
	}
	if compared < 5000 {
		t.Errorf("only %d were compared", compared)
	}
}

// P3.4.
func TestPartsTogether(t *testing.T) {
	m := newMaker(14)
	for _, s := range sampleTypes(15, 5000) {
		again := made{}
		switch n, _ := kind.Kind(s); n {
		case api.TypArray:
			arg, _, _ := kind.Arg(s)
			again.t, again.e = kind.Array(arg)
		case api.TypName:
			base, _ := kind.Base(s)
			arg, _, _ := kind.Arg(s)
			again.t, again.e = kind.Named(base, arg)
		case api.TypRecord, api.TypOneof:
			l, _ := kind.Parts(s)
			m.Shuffle(len(l), func(i, j int) { l[i], l[j] = l[j], l[i] })
			join := map[uint8]func([]api.Part) (string, api.Errno){api.TypRecord: kind.Record, api.TypOneof: kind.Oneof}[n]
			again.t, again.e = join(l)
		default:
			continue
		}
		if again != (made{s, api.OK}) {
			t.Fatalf("P3.4: %q: %q, %d", s, again.t, again.e)
		}
	}
}

// P3.5, the second half, and P3.6.
func TestLevelsAndNamesOfWith(t *testing.T) {
	m := newMaker(16)
	for range 5000 {
		s, a := m.typ(4), m.typ(3)
		put := makeWith(s, a)
		if put.e != api.OK {
			continue
		}
		levels, of, in := 0, 0, 0
		levels, _ = kind.Level(put.t)
		of, _ = kind.Level(s)
		in, _ = kind.Level(a)
		if levels > of+in-1 {
			t.Fatalf("P3.5: %q with %q has %d levels", s, a, levels)
		}
		want, _ := kind.Names(s)
		if isOpen, _ := kind.Open(s); isOpen {
			more, _ := kind.Names(a)
			want = append(want, more...)
		}
		slices.Sort(want)
		if got, _ := kind.Names(put.t); !slices.Equal(got, slices.Compact(want)) {
			t.Fatalf("P3.6: %q with %q has the names %q", s, a, got)
		}
	}
}
