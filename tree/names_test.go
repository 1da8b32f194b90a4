package tree_test

import (
	"slices"
	"strings"
	"testing"

	"argus/api"
	"argus/tree"
)

func TestIsType(t *testing.T) {
	fifty := strings.Repeat("array[", 13) + "abcdefghi" + strings.Repeat("]", 13)
	for s, want := range map[string]bool{
		"record[b:int,a:set[?t]]": true, "array[int": false, "?u": false, "int": true, "bool": true, "null": true, "?t": true, "t": true, "set": true, "set[t]": true, "array[array[bool]]": true,
		"oneof[a:null]": true, "record[a:int,a:int]": true, "record[a:int,b:int,c:int,d:int,e:int,f:int,g:int]": true, "record[t:t]": true, "set[record[a:?t]]": true, "twelveletter": true, "twelveletter[twelveletter]": true,
		"": false, " ": false, " int": false, "int ": false, "array [int]": false, "array[ int]": false, "array[int ]": false, "record[a: int]": false, "record[a :int]": false, "record[a:int, b:int]": false, "? t": false, "int%": false, "int\n": false, "\nint": false, "%\nint": false,
		"array": false, "array[]": false, "record": false, "record[]": false, "oneof[]": false, "record[int]": false, "record[a]": false, "record[a:]": false, "record[a:int,]": false, "record[,a:int]": false, "record[a:int b:int]": false, "record[if:int]": false, "record[1:int]": false, "record[?t:int]": false,
		"?": false, "t?": false, "??t": false, "?t[int]": false, "int[int]": false, "set[]": false, "set[int,int]": false, "set[a:int]": false, "set[int]]": false, "set[int][int]": false, "set{int}": false, "(int)": false, "set int": false, "intbool": true, "int bool": false, "int,bool": false,
		"if": false, "nil": false, "true": false, "cluster": false, "1": false, "set[1]": false, "thirteenlette": false, "set[thirteenlette]": false, "record[thirteenlette:int]": false, "Int": false, "a_b": false, "a$b": false, "a.b": false, "array[int]!": false, "\x00": false, "int\x00": false, "\xff": false,
		fifty: true, "a" + fifty: false, strings.Repeat("array[", 13) + "abcdefghij" + strings.Repeat("]", 13): false, strings.Repeat("a[", 33) + "a" + strings.Repeat("]", 33): true, strings.Repeat("a[", 34) + "a" + strings.Repeat("]", 34): false,
	} {
		if tree.IsType(s) != want || want != plainIsType(s) {
			t.Errorf("%q (%d bytes): %v, %v", s, len(s), tree.IsType(s), plainIsType(s))
		}
	}
	if len(fifty) != 100 {
		t.Errorf("%d bytes", len(fifty))
	}
}

func TestIsTypeAgreesWithThePlainOne(t *testing.T) {
	m := newMaker(31)
	good := 0
	for range 20000 {
		s := m.typeOf(4)
		if m.IntN(3) > 0 {
			i, j := m.IntN(len(s)+1), m.IntN(len(s)+1)
			s = s[:i] + pick(m, "", "", "[", "]", ",", ":", " ", "?", "a", "1", "T", "int") + s[max(i, min(j, i+2)):]
		}
		want := plainIsType(s)
		if tree.IsType(s) != want {
			t.Fatalf("%q: not %v", s, want)
		}
		if want {
			good++
		}
	}
	if good < 5000 || good > 15000 {
		t.Errorf("%d of 20000 are types: too one-sided", good)
	}
}

func TestIsOp(t *testing.T) {
	for s, want := range map[string]bool{
		"get_f": true, "a": true, "t": true, "mod": true, "and": true, "or": true, "not": true, "add": true, "twelveletter": true, "twelveletter_twelveletter": true, "a1_b2": true, "is_a": false, "iss_a": true, "make_int": false, "set_t": true,
		"": false, "_": false, "a_": false, "_a": false, "a__b": false, "a_b_c": false, "mod_a": false, "a_mod": false, "not_not": false, "if": false, "put": false, "int": false, "thirteenlette": false, "a_thirteenlette": false, "thirteenlette_a": false,
		"1": false, "1_a": false, "a_1": false, "A": false, "a b": false, "a _b": false, "a_ b": false, " a": false, "a\n": false, "a$b": false, "+": false, "<": false, "?t": false, "a%": false, "\x00": false,
	} {
		if tree.IsOp(s) != want || want != plainIsOp(s) {
			t.Errorf("%q: %v, %v", s, tree.IsOp(s), plainIsOp(s))
		}
	}
}

func TestUses(t *testing.T) {
	for src, want := range map[string]string{
		"x := p(q[r]$make(nil))": "p q r", "": "", "x := y": "", "x := a[b]": "", "x.f := y.g": "", "put 1; signal s": "", "f()": "f", "f(); g(); f()": "f g", "z(y(x(w)))": "x y z", "f{g}()": "f g", "f{g[h]}()": "f g h", "f{?t}()": "f", "f{t}()": "f t", "t()": "t",
		"int$add(1, 2)": "", "a$b()": "a", "a$b_c()": "a", "a[?t]$mod(x)": "a", "array[b]$new()": "b", "record[a:b,c:d[e]]$make()": "b d e", "oneof[a:?t,t:t]$make_a(1)": "t", "var x: a := b": "a", "var x: array[?t] := b": "", "var f: record[a:record[b:c]] := d": "c",
		"for x: a in b() do c() end": "a b c", "for x: int in a$b() do end": "a", "tagcase x tag a(b: c): d() end": "c d", "tagcase a() tag b(c: null): tag d(e: set[f]): end": "a f set", "begin a() except when b: c() when others: d() end": "a c d",
		"x := up(a(b)); y := down(c())": "a c", "x := not a(); y := b() + c()": "a b c", "a()[b()] := c()": "a b c", "a().b := c()": "a c", "if a() then b() elseif c() then d() else e() end": "a b c d e", "while a() do return b() end; yield c()": "a b c",
	} {
		l, e := tree.Uses(body(t, src))
		if e != api.OK || !slices.Equal(l, strings.Fields(want)) {
			t.Errorf("%q: %q, %d", src, l, e)
		}
	}
	if l, e := tree.Uses([]api.Node{named(api.ExCall, "f")}); len(l) > 0 || e != api.ErrTree {
		t.Errorf("%q, %d", l, e)
	}
}
