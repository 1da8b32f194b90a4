package face_test

import (
	"slices"
	"strings"
	"testing"

	"argus/api"
	"argus/face"
)

// tables has the operations of the chapter's table, for each type in the order of their names.
func tables() map[string][]string {
	return map[string][]string{
		"int": {
			"add proc(int,int) returns int signals(overflow)", "div proc(int,int) returns int signals(zerodivide)", "equal proc(int,int) returns bool", "le proc(int,int) returns bool",
			"lt proc(int,int) returns bool", "mod proc(int,int) returns int signals(zerodivide)", "mul proc(int,int) returns int signals(overflow)", "sub proc(int,int) returns int signals(overflow)",
		},
		"bool": {"and proc(bool,bool) returns bool", "equal proc(bool,bool) returns bool", "not proc(bool) returns bool", "or proc(bool,bool) returns bool"},
		"null": {"equal proc(null,null) returns bool"},
		"array[int]": {
			"addh proc(array[int],int) signals(overflow)", "equal proc(array[int],array[int]) returns bool", "fetch proc(array[int],int) returns int signals(bounds)", "new proc() returns array[int]",
			"remh proc(array[int]) returns int signals(bounds)", "size proc(array[int]) returns int", "store proc(array[int],int,int) signals(bounds)",
		},
		"array[array[?t]]": {
			"addh proc(array[array[?t]],array[?t]) signals(overflow)", "equal proc(array[array[?t]],array[array[?t]]) returns bool", "fetch proc(array[array[?t]],int) returns array[?t] signals(bounds)", "new proc() returns array[array[?t]]",
			"remh proc(array[array[?t]]) returns array[?t] signals(bounds)", "size proc(array[array[?t]]) returns int", "store proc(array[array[?t]],int,array[?t]) signals(bounds)",
		},
		"record[a:int,b:bool]": {
			"equal proc(record[a:int,b:bool],record[a:int,b:bool]) returns bool", "get_a proc(record[a:int,b:bool]) returns int", "get_b proc(record[a:int,b:bool]) returns bool",
			"make proc(int,bool) returns record[a:int,b:bool]", "set_a proc(record[a:int,b:bool],int)", "set_b proc(record[a:int,b:bool],bool)",
		},
		"record[v:?t]":      {"equal proc(record[v:?t],record[v:?t]) returns bool", "get_v proc(record[v:?t]) returns ?t", "make proc(?t) returns record[v:?t]", "set_v proc(record[v:?t],?t)"},
		"oneof[no:null]":    {"equal proc(oneof[no:null],oneof[no:null]) returns bool", "is_no proc(oneof[no:null]) returns bool", "make_no proc(null) returns oneof[no:null]"},
		"oneof[a:?t,b:int]": {"equal proc(oneof[a:?t,b:int],oneof[a:?t,b:int]) returns bool", "is_a proc(oneof[a:?t,b:int]) returns bool", "is_b proc(oneof[a:?t,b:int]) returns bool", "make_a proc(?t) returns oneof[a:?t,b:int]", "make_b proc(int) returns oneof[a:?t,b:int]"},
		"set[int]":          {"holds proc(set[int],int) returns bool", "new proc() returns set[int]"},
		"set[set2]":         {"holds proc(set[set2],set2) returns bool", "new proc() returns set[set2]"},
		"set2":              {"b proc(set2) signals(a,c)", "equal proc(set2,set2) returns bool", "z iter() yields set2"},
		"set[array[?t]]":    {"holds proc(set[array[?t]],array[?t]) returns bool", "new proc() returns set[array[?t]]"},
	}
}

func tableFaces() []api.Face {
	return []api.Face{set(), newFace("cluster set2", "op z iter() yields set2", "op equal proc(set2,set2) returns bool", "op b proc(set2) signals(a,c)")}
}

func TestOperations(t *testing.T) {
	for typ, texts := range tables() {
		want := ops(texts...)
		if got, e := face.OpsOf(tableFaces(), nil, typ); e != api.OK || !isSame(got, want) {
			t.Errorf("OpsOf(%s): %d\n%s", typ, e, show(got))
		}
		for _, o := range want {
			if got, e := face.OpOf(tableFaces(), nil, typ, o.Name); e != api.OK || !isSame(got, o.Sig) {
				t.Errorf("OpOf(%s, %s): %s, %d", typ, o.Name, show(got), e)
			}
		}
		for _, name := range []string{"", "?t", "make_", "get_c", "is_", "Equal", "int", "equals", "addl", "t", "get_a_", "new_a"} {
			if got, e := face.OpOf(tableFaces(), nil, typ, name); e != api.ErrOp || !isEmpty(got) {
				t.Errorf("OpOf(%s, %q): %s, %d", typ, name, show(got), e)
			}
		}
	}
}

func TestOperationsThatOthersHave(t *testing.T) {
	for typ, names := range map[string]string{"int": "and not make size", "bool": "add lt le", "null": "lt not make", "array[int]": "make add get_a", "record[a:int]": "get set get_b is_a make_a new", "oneof[a:int]": "make get_a is is_b", "set[int]": "add equal size", "set2": "a holds"} {
		for _, name := range strings.Fields(names) {
			if got, e := face.OpOf(tableFaces(), nil, typ, name); e != api.ErrOp || !isEmpty(got) {
				t.Errorf("OpOf(%s, %s): %s, %d", typ, name, show(got), e)
			}
		}
	}
}

func TestOperationsOfTheParameter(t *testing.T) {
	list := needs("a iter(?t) yields set[?t] signals(b)", hasEqual, "give proc(int,?t)", "z proc() returns array[int]")
	got, e := face.OpsOf(examples(), list, "?t")
	if want := ops("a iter(?t) yields set[?t] signals(b)", hasEqual, "give proc(int,?t)", "z proc() returns array[int]"); e != api.OK || !isSame(got, want) {
		t.Errorf("OpsOf: %d\n%s", e, show(got))
	}
	if got, e := face.OpOf(examples(), list, "?t", "a"); e != api.OK || !isSame(got, list[0].Sig) {
		t.Errorf("OpOf: %s, %d", show(got), e)
	}
	for _, name := range []string{"", "lt", "aa", "t"} {
		if got, e := face.OpOf(examples(), list, "?t", name); e != api.ErrOp || !isEmpty(got) {
			t.Errorf("OpOf(%q): %s, %d", name, show(got), e)
		}
	}
	if got, e := face.OpsOf(examples(), nil, "?t"); e != api.OK || len(got) != 0 {
		t.Errorf("without needs: %d\n%s", e, show(got))
	}
	if _, e := face.OpOf(examples(), nil, "?t", "equal"); e != api.ErrOp {
		t.Errorf("without needs: %d", e)
	}
}

// All six parts of a record are arguments of make, and the names of operations are sorted, not those of parts.
func TestOperationsOfManyParts(t *testing.T) {
	const typ = "record[a:int,a1:bool,ab:null,b:?t,make:int,set:array[int]]"
	got, e := face.OpsOf(nil, nil, typ)
	var names []string
	for _, o := range got {
		names = append(names, o.Name)
	}
	want := strings.Fields("equal get_a get_a1 get_ab get_b get_make get_set make set_a set_a1 set_ab set_b set_make set_set")
	if e != api.OK || !slices.Equal(names, want) {
		t.Errorf("OpsOf: %q, %d", names, e)
	}
	for name, text := range map[string]string{"make": "proc(int,bool,null,?t,int,array[int]) returns " + typ, "get_make": "proc(" + typ + ") returns int", "set_set": "proc(" + typ + ",array[int])"} {
		if got, e := face.OpOf(nil, nil, typ, name); e != api.OK || !isSame(got, sig(text)) {
			t.Errorf("OpOf(%s): %s, %d", name, show(got), e)
		}
	}
}

// tight is a cluster some of whose operations have no room for each argument.
func tight() []api.Face {
	return []api.Face{
		newFace("cluster c[t]", "op deep proc(array[array[?t]])", "op equal proc(c[?t],c[?t]) returns bool", "op gives proc() returns record[first:?t,second:?t]", "op yields2 iter(int) yields record[first:?t,second:?t]"),
		newFace("cluster d[t]", "has deep proc(array[array[?t]])", "op e proc()"),
	}
}

func TestOperationsThatAreTooLong(t *testing.T) {
	long, deep := wide(80), nested(5, "int")
	if got, e := face.OpsOf(tight(), nil, "c["+long+"]"); e != api.ErrLimit || !isEmpty(got) {
		t.Errorf("OpsOf, too long: %d\n%s", e, show(got))
	}
	if got, e := face.OpsOf(tight(), nil, "c["+deep+"]"); e != api.ErrLimit || !isEmpty(got) {
		t.Errorf("OpsOf, too deep: %d\n%s", e, show(got))
	}
	for _, x := range []struct {
		arg, name string
		want      api.Errno
	}{
		{long, "deep", api.OK}, {long, "equal", api.OK}, {long, "gives", api.ErrLimit}, {long, "yields2", api.ErrLimit}, {long, "none", api.ErrOp}, {deep, "deep", api.ErrLimit}, {deep, "gives", api.OK}, {deep, "equal", api.OK}, {nested(4, "int"), "deep", api.OK}, {wide(37 + 43), "gives", api.ErrLimit},
		{"record[abcdefghij:int,b:int]", "gives", api.OK},
	} {
		got, e := face.OpOf(tight(), nil, "c["+x.arg+"]", x.name)
		if e != x.want || e != api.OK && !isEmpty(got) || e == api.OK && strings.Contains(show(got), "?t") {
			t.Errorf("OpOf(c[%s], %s): %s, %d", x.arg, x.name, show(got), e)
		}
	}
	if e := face.Good(tight(), nil, false, "c["+long+"]"); e != api.OK {
		t.Errorf("Good: %d", e)
	}
}

// The longest types that there may be are no error.
func TestOperationsThatAreJustInTheLimits(t *testing.T) {
	arg := "record[abcdefghijk:int,b:int,c:bool]"
	gives := "record[first:" + arg + ",second:" + arg + "]"
	f := newFace("cluster c[t]", "op gives proc() returns record[first:?t,second:?t]", "op takes proc(record[first:?t,second:?t])")
	for pad := range 12 {
		longer := strings.Replace(arg, "b:", "b"+strings.Repeat("x", pad)+":", 1)
		want := api.OK
		if len(gives)+2*pad > 100 {
			want = api.ErrLimit
		}
		if _, e := face.OpsOf([]api.Face{f}, nil, "c["+longer+"]"); e != want {
			t.Errorf("%d bytes: %d", len(gives)+2*pad, e)
		}
		if _, e := face.OpOf([]api.Face{f}, nil, "c["+longer+"]", "takes"); e != want {
			t.Errorf("%d bytes: %d", len(gives)+2*pad, e)
		}
	}
	for _, typ := range []string{wide(100), "array[" + wide(93) + "]", nested(6, "int"), "oneof[a:" + nested(5, "bool") + "]"} {
		if l, e := face.OpsOf(nil, nil, typ); e != api.OK || len(l) == 0 {
			t.Errorf("OpsOf(%s): %d", typ, e)
		}
	}
}

// For OpsOf alone the types of needs have to be good.
func TestNeedsOfOpsOf(t *testing.T) {
	bad := needs(hasEqual, "lt proc(nowhere,?t)")
	for _, typ := range []string{"?t", "int", "set[?t]", "nowhere", "!"} {
		if l, e := face.OpsOf(examples(), bad, typ); e != api.ErrFace || !isEmpty(l) {
			t.Errorf("OpsOf(%s): %d\n%s", typ, e, show(l))
		}
	}
	for _, text := range []string{"lt proc(set[set[int]])", "lt proc() returns set", "lt iter(int) yields sort[int]", "lt proc(array[nowhere[?t]])", "lt proc(int,set[record[a:set]])"} {
		if _, e := face.OpsOf(examples(), needs(text), "int"); e != api.ErrFace {
			t.Errorf("%s: %d", text, e)
		}
	}
	if got, e := face.OpOf(examples(), bad, "?t", "lt"); e != api.OK || !isSame(got, bad[1].Sig) {
		t.Errorf("OpOf: %s, %d", show(got), e)
	}
	if got, e := face.OpsOf(examples(), needs(hasEqual, "lt proc(set[?t])"), "?t"); e != api.OK || len(got) != 2 {
		t.Errorf("good ones: %d", e)
	}
	if _, e := face.OpsOf(examples(), needs("lt proc(set[?t])"), "?t"); e != api.ErrFace {
		t.Errorf("sets without a need of equal: %d", e)
	}
}

// Where there are needs there is a parameter, and where the type is open.
func TestParameterOfOperations(t *testing.T) {
	for _, list := range [][]api.Need{nil, needs("a proc()"), needs(hasEqual)} {
		for typ, want := range map[string]api.Errno{"?t": api.OK, "array[?t]": api.OK, "set[?t]": api.ErrFit, "int": api.OK, "set[int]": api.OK} {
			if len(list) > 0 && list[0].Op == "equal" {
				want = api.OK
			}
			if _, e := face.OpsOf(examples(), list, typ); e != want {
				t.Errorf("OpsOf(%s), %v: %d", typ, list, e)
			}
		}
	}
}
