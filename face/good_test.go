package face_test

import (
	"testing"

	"argus/api"
	"argus/face"
)

func TestGoodOfTheExamples(t *testing.T) {
	for _, x := range []struct {
		typ   string
		param bool
		needs []api.Need
		want  api.Errno
	}{
		{"set[int]", false, nil, api.OK},
		{"set", false, nil, api.ErrNone},
		{"set[set[int]]", false, nil, api.ErrFit},
		{"set[?t]", false, nil, api.ErrOpen},
		{"set[?t]", true, nil, api.ErrFit},
		{"set[?t]", true, needs(hasEqual), api.OK},
	} {
		if e := face.Good(examples(), x.needs, x.param, x.typ); e != x.want {
			t.Errorf("Good(%s): %d", x.typ, e)
		}
	}
}

// In the scope of these faces there is no parameter.
func TestGoodOfClosedTypes(t *testing.T) {
	for typ, want := range map[string]api.Errno{
		"int": api.OK, "bool": api.OK, "null": api.OK, "coin": api.OK, "array[coin]": api.OK, "bag[bag[coin]]": api.OK, "set[bag[int]]": api.OK, "set[array[set[int]]]": api.OK, "set[record[a:set[int]]]": api.OK, "set[oneof[a:set[bool]]]": api.OK, "tree[coin]": api.OK, "tree[int]": api.OK, wide(100): api.OK, nested(6, "int"): api.OK, "bag[tree[int]]": api.OK,
		"": api.ErrForm, "array": api.ErrForm, "set[int": api.ErrForm, "?u": api.ErrForm, "record[b:int,a:int]": api.ErrForm, "nowhere[]": api.ErrForm, nested(7, "int"): api.ErrLimit, nested(7, "?t"): api.ErrLimit, wide(101): api.ErrLimit,
		"?t": api.ErrOpen, "array[?t]": api.ErrOpen, "nowhere[?t]": api.ErrOpen, "record[a:nowhere,b:?t]": api.ErrOpen,
		"nowhere": api.ErrNone, "nowhere[int]": api.ErrNone, "coin[int]": api.ErrNone, "bag": api.ErrNone, "t": api.ErrNone, "main": api.ErrNone, "sort": api.ErrNone, "sort[int]": api.ErrNone, "each[int]": api.ErrNone, "array[nowhere]": api.ErrNone, "record[a:int,b:nowhere]": api.ErrNone, "bag[nowhere]": api.ErrNone, "bag[bag]": api.ErrNone,
		"set[set[int]]": api.ErrFit, "tree[bool]": api.ErrFit, "tree[array[int]]": api.ErrFit, "bag[tree[null]]": api.ErrFit, "oneof[a:int,b:set[tree[int]]]": api.ErrFit,
	} {
		for _, list := range [][]api.Need{nil, needs(hasEqual, hasLt)} {
			if e := face.Good(more(), list, false, typ); e != want {
				t.Errorf("Good(%s), %d needs: %d, not %d", typ, len(list), e, want)
			}
		}
	}
}

// What is not good has no operations, so it fits no need; where there are no needs it is asked by itself.
func TestGoodHasTheFirstName(t *testing.T) {
	for typ, want := range map[string]api.Errno{
		"set[nowhere]": api.ErrFit, "set[set]": api.ErrFit, "set[array[nowhere]]": api.ErrFit, "set[set[set[int]]]": api.ErrFit, "set[bag[nowhere]]": api.ErrFit, "bag[set[nowhere]]": api.ErrFit, "bag[bag[nowhere]]": api.ErrNone,
		"record[a:nowhere,b:set[null]]": api.ErrNone, "record[a:nowhere,b:set[set[int]]]": api.ErrNone, "record[a:set[set[int]],b:nowhere]": api.ErrFit, "record[b:set[nowhere],c:coin[int]]": api.ErrFit, "oneof[a:coin,b:bag[coin[int]],c:tree[bool]]": api.ErrNone, "nowhere[set[set[int]]]": api.ErrNone, "set[int[int]]": api.ErrForm, "array[record[a:coin[set[set[int]]]]]": api.ErrNone,
	} {
		if e := face.Good(more(), nil, false, typ); e != want {
			t.Errorf("Good(%s): %d, not %d", typ, e, want)
		}
	}
}

func TestGoodWithAParameter(t *testing.T) {
	for _, x := range []struct {
		typ   string
		needs []api.Need
		want  api.Errno
	}{
		{"?t", nil, api.OK}, {"int", nil, api.OK}, {"array[?t]", nil, api.OK}, {"bag[?t]", nil, api.OK}, {"bag[bag[?t]]", nil, api.OK}, {"set[array[?t]]", nil, api.OK}, {"set[bag[?t]]", nil, api.OK}, {"set[record[a:?t]]", nil, api.OK},
		{"tree[?t]", nil, api.ErrFit}, {"tree[?t]", needs(hasEqual), api.ErrFit}, {"tree[?t]", needs(hasLt), api.ErrFit}, {"tree[?t]", needs(hasEqual, hasLt), api.OK}, {"tree[?t]", needs("a proc()", hasEqual, hasLt, "z iter() yields nowhere"), api.OK}, {"tree[tree[?t]]", needs(hasEqual, hasLt), api.ErrFit},
		{"set[?t]", needs("equal proc(?t,?t)"), api.ErrFit}, {"set[?t]", needs("equal proc(?t,int) returns bool"), api.ErrFit}, {"set[?t]", needs("equal iter(?t,?t) yields bool"), api.ErrFit}, {"set[?t]", needs("equal proc(?t,?t) returns bool signals(a)"), api.ErrFit}, {"set[?t]", needs("equal proc(?t) returns bool"), api.ErrFit}, {"set[?t]", needs("equals proc(?t,?t) returns bool"), api.ErrFit},
		{"nowhere[?t]", nil, api.ErrNone}, {"coin[?t]", nil, api.ErrNone}, {"sort[?t]", needs(hasLt), api.ErrNone}, {"set", needs(hasEqual), api.ErrNone}, {"int[?t]", nil, api.ErrForm}, {nested(7, "?t"), nil, api.ErrLimit}, {nested(6, "?t"), nil, api.OK},
	} {
		if e := face.Good(more(), x.needs, true, x.typ); e != x.want {
			t.Errorf("Good(%s), %d needs: %d, not %d", x.typ, len(x.needs), e, x.want)
		}
	}
}

// Needs do not make a parameter where it is said that there is none.
func TestGoodIsToldOfTheParameter(t *testing.T) {
	if e := face.Good(examples(), needs(hasEqual), false, "set[?t]"); e != api.ErrOpen {
		t.Errorf("%d", e)
	}
	if e := face.Good(nil, nil, true, "?t"); e != api.OK {
		t.Errorf("%d", e)
	}
	if e := face.Good(nil, needs(hasEqual), true, "set[?t]"); e != api.ErrNone {
		t.Errorf("without faces: %d", e)
	}
}

// A need may name types that are not good, and its signature is compared as it stands.
func TestNeedsAreComparedAsTexts(t *testing.T) {
	faces := []api.Face{
		newFace("cluster box[t]", "has give proc(?t,array[?t]) returns record[a:?t,b:int] signals(a,b)", "op new proc() returns box[?t]"),
		newFace("cluster one", "op give proc(one,array[one]) returns record[a:one,b:int] signals(a,b)"),
		newFace("cluster two", "op give proc(one,array[two]) returns record[a:two,b:int] signals(a,b)"),
		newFace("cluster twoa", "op give proc(twoa,array[twoa]) returns record[a:twoa,b:int] signals(a,c)"),
		newFace("cluster twob", "op give proc(twob,array[twob]) returns record[a:twob,b:int]"),
		newFace("cluster twoc", "op give proc(twoc,array[twoc]) returns record[a:twoc,b:bool] signals(a,b)"),
		newFace("cluster twod[t]", "op give proc(twod[?t],array[twod[?t]]) returns record[a:twod[?t],b:int] signals(a,b)"),
		newFace("cluster twoe[t]", "op give proc(twoe[int],array[twoe[int]]) returns record[a:twoe[int],b:int] signals(a,b)"),
		newFace("cluster twof", "op give proc(twof,array[twof]) signals(a,b)"),
		newFace("cluster twog", "op give iter(twog,array[twog]) yields record[a:twog,b:int] signals(a,b)"),
	}
	for typ, want := range map[string]api.Errno{
		"box[one]": api.OK, "box[two]": api.ErrFit, "box[twoa]": api.ErrFit, "box[twob]": api.ErrFit, "box[twoc]": api.ErrFit, "box[twod[bool]]": api.OK, "box[twod[twod[int]]]": api.OK, "box[twoe[int]]": api.OK, "box[twoe[bool]]": api.ErrFit, "box[twof]": api.ErrFit, "box[twog]": api.ErrFit, "box[int]": api.ErrFit,
	} {
		if e := face.Good(faces, nil, false, typ); e != want {
			t.Errorf("Good(%s): %d, not %d", typ, e, want)
		}
	}
	if e := face.Good(faces, needs("give proc(?t,array[?t]) returns record[a:?t,b:int] signals(a,b)"), true, "box[?t]"); e != api.OK {
		t.Errorf("Good(box[?t]): %d", e)
	}
	if e := face.Good(examples(), needs(hasEqual, "lt proc(nowhere) returns set[set[int]]"), true, "set[?t]"); e != api.OK {
		t.Errorf("beside a need that is not good: %d", e)
	}
}
