package face_test

import (
	"testing"

	"argus/api"
	"argus/face"
)

func askSig(t *testing.T, faces []api.Face, list []api.Need, name, arg, want string, err api.Errno) {
	t.Helper()
	got, e := face.SigOf(faces, list, name, arg)
	if e != err || e != api.OK && !isEmpty(got) || e == api.OK && !isSame(got, sig(want)) {
		t.Errorf("SigOf(%s, %q): %s, %d", name, arg, show(got), e)
	}
}

func TestSigOf(t *testing.T) {
	for _, x := range []struct {
		name, arg, want string
		e               api.Errno
	}{
		{"sort", "int", "proc(array[int])", api.OK}, {"sort", "coin", "proc(array[coin])", api.OK}, {"main", "", "proc(set[int]) signals(bad)", api.OK}, {"each", "bool", "iter(array[bool]) yields bool", api.OK}, {"each", "?t", "iter(array[?t]) yields ?t", api.OK}, {"each", "set[array[?t]]", "iter(array[set[array[?t]]]) yields set[array[?t]]", api.OK}, {"each", nested(5, "int"), "iter(" + nested(6, "int") + ") yields " + nested(5, "int"), api.OK},
		{"sort", "bool", "", api.ErrFit}, {"sort", "?t", "", api.ErrFit}, {"sort", "set[int]", "", api.ErrFit},
		{"sort", "", "", api.ErrNone}, {"each", "", "", api.ErrNone}, {"main", "int", "", api.ErrNone}, {"set", "int", "", api.ErrNone}, {"set", "", "", api.ErrNone}, {"coin", "", "", api.ErrNone}, {"nowhere", "int", "", api.ErrNone}, {"", "", "", api.ErrNone}, {"sort[int]", "", "", api.ErrNone}, {"int", "", "", api.ErrNone},
		{"nowhere", "!", "", api.ErrNone}, {"main", "!", "", api.ErrNone}, {"set", "set", "", api.ErrNone}, {"main", "set", "", api.ErrNone},
		{"sort", "!", "", api.ErrForm}, {"sort", wide(101), "", api.ErrLimit}, {"each", "set", "", api.ErrNone}, {"each", "nowhere[?t]", "", api.ErrNone}, {"sort", "set[set[int]]", "", api.ErrFit}, {"each", "set[?t]", "", api.ErrFit},
		{"each", nested(6, "int"), "", api.ErrLimit}, {"each", wide(94), "", api.ErrLimit}, {"each", wide(93), "iter(array[" + wide(93) + "]) yields " + wide(93), api.OK},
	} {
		askSig(t, more(), nil, x.name, x.arg, x.want, x.e)
	}
}

func TestSigOfWithNeeds(t *testing.T) {
	askSig(t, more(), needs(hasLt), "sort", "?t", "proc(array[?t])", api.OK)
	askSig(t, more(), needs(hasEqual), "sort", "?t", "", api.ErrFit)
	askSig(t, more(), needs(hasEqual), "each", "set[?t]", "iter(array[set[?t]]) yields set[?t]", api.OK)
	askSig(t, more(), needs(hasLt), "sort", "int", "proc(array[int])", api.OK)
	askSig(t, more(), needs(hasLt), "main", "", "proc(set[int]) signals(bad)", api.OK)
	askSig(t, more(), needs(hasLt), "main", "?t", "", api.ErrNone)
	askSig(t, more(), needs("a proc(nowhere)"), "each", "?t", "iter(array[?t]) yields ?t", api.OK)
}

// ErrFit comes ahead of a signature that is too long, and a need that is too long does not fit.
func TestSigOfWithoutRoom(t *testing.T) {
	faces := []api.Face{
		newFace("proc a[t]", "has equal proc(?t,?t) returns bool", "op a proc(record[first:?t,second:?t]) returns int"),
		newFace("proc b[t]", "has lt proc(?t,?t) returns bool", "op b proc(record[first:?t,second:?t])"),
		newFace("proc c[t]", "op c proc() returns record[first:?t,second:?t]"),
		newFace("proc d[t]", "has equal proc(record[first:?t,second:?t])", "op d proc()"),
	}
	askSig(t, faces, nil, "a", wide(60), "", api.ErrLimit)
	askSig(t, faces, nil, "b", wide(60), "", api.ErrFit)
	askSig(t, faces, nil, "c", wide(60), "", api.ErrLimit)
	askSig(t, faces, nil, "d", wide(60), "", api.ErrFit)
	askSig(t, faces, nil, "a", "array[int]", "proc(record[first:array[int],second:array[int]]) returns int", api.OK)
}

func askFits(t *testing.T, faces []api.Face, list, want []api.Need, typ, op string) {
	t.Helper()
	if got, fits, e := face.Fits(faces, list, want, typ); got != op || fits != (op == "") || e != api.OK {
		t.Errorf("Fits(%v, %s): %q, %v, %d", want, typ, got, fits, e)
	}
}

func TestFits(t *testing.T) {
	askFits(t, examples(), nil, needs(hasLt), "bool", "lt")
	askFits(t, examples(), nil, needs(hasEqual), "bool", "")
	for typ, op := range map[string]string{"int": "", "bool": "lt", "null": "lt", "array[int]": "lt", "coin": "", "set[int]": "equal", "bag[coin]": "lt", "tree[coin]": "equal", "record[a:int]": "lt", "oneof[a:set[int]]": "lt", "?t": "equal"} {
		askFits(t, more(), nil, needs(hasEqual, hasLt), typ, op)
		askFits(t, more(), nil, nil, typ, "")
	}
	askFits(t, more(), needs(hasLt), needs(hasEqual, hasLt), "?t", "equal")
	askFits(t, more(), needs(hasEqual), needs(hasEqual, hasLt), "?t", "lt")
	askFits(t, more(), needs(hasEqual, hasLt), needs(hasEqual, hasLt), "?t", "")
	askFits(t, more(), needs(hasEqual, hasLt), needs(hasLt), "?t", "")
	askFits(t, more(), needs("a proc(nowhere)"), needs("a proc(nowhere)"), "?t", "")
	askFits(t, more(), needs("a proc(nowhere)"), needs("a proc(nowher)"), "?t", "a")
	askFits(t, more(), nil, needs("a proc()", "equal proc(?t,?t) returns bool", "lt proc()"), "int", "a")
	askFits(t, more(), nil, needs("equal proc(?t,?t) returns bool", "lt proc()", "z proc()"), "int", "lt")
}

func TestFitsAsksTheWholeSignature(t *testing.T) {
	for text, op := range map[string]string{
		"add proc(?t,?t) returns ?t signals(overflow)": "", "add proc(int,?t) returns int signals(overflow)": "", "add proc(int,int) returns int signals(overflow)": "",
		"add proc(?t,?t) returns ?t": "add", "add proc(?t,?t) signals(overflow)": "add", "add proc(?t) returns ?t signals(overflow)": "add", "add proc(?t,?t,?t) returns ?t signals(overflow)": "add", "add proc(?t,?t) returns ?t signals(zerodivide)": "add", "add proc(?t,?t) returns ?t signals(overflow,zerodivide)": "add", "add iter(?t,?t) yields ?t signals(overflow)": "add", "add proc(?t,bool) returns ?t signals(overflow)": "add", "add proc(?t,?t) returns bool signals(overflow)": "add", "plus proc(?t,?t) returns ?t signals(overflow)": "plus",
	} {
		askFits(t, nil, nil, needs(text), "int", op)
	}
	askFits(t, nil, nil, needs("size proc(?t) returns int", "store proc(?t,int,int) signals(bounds)"), "array[int]", "")
	askFits(t, nil, nil, needs("size proc(?t) returns int", "store proc(?t,int,int) signals(bounds)"), "array[bool]", "store")
	askFits(t, more(), nil, needs("all iter(?t) yields coin signals(a,b)", "pair proc(coin) returns record[a:coin,b:coin]"), "bag[coin]", "")
	askFits(t, more(), nil, needs("all iter(?t) yields coin signals(a,b)"), "bag[int]", "all")
}

// A need, or an operation, that is too long with the type in it does not fit.
func TestFitsWithoutRoom(t *testing.T) {
	askFits(t, tight(), nil, needs("gives proc() returns record[first:?t,second:?t]"), "c[int]", "gives")
	askFits(t, tight(), nil, needs("gives proc() returns record[first:int,second:int]"), "c[int]", "")
	askFits(t, tight(), nil, needs("gives proc() returns record[first:int,second:int]"), "c["+wide(60)+"]", "gives")
	askFits(t, tight(), nil, needs("equal proc(?t,?t) returns bool", "gives proc() returns record[first:?t,second:?t]"), "c["+wide(60)+"]", "gives")
	askFits(t, tight(), nil, needs("deep proc(array[array[?t]])"), "c["+nested(5, "int")+"]", "deep")
	askFits(t, tight(), nil, needs("equal proc(?t,?t) returns bool"), "c["+nested(5, "int")+"]", "")
	askFits(t, nil, needs("a proc(array[?t])"), needs("a proc(array[?t])"), "?t", "")
	askFits(t, nil, needs("a proc("+nested(6, "?t")+")"), needs("a proc("+nested(6, "?t")+")"), "?t", "")
}

func TestErrorsOfFits(t *testing.T) {
	for what, want := range noNeeds() {
		for _, typ := range []string{"int", "!", "nowhere", "?t"} {
			if op, fits, e := face.Fits(examples(), nil, want, typ); e != api.ErrFace || !isEmpty(op, fits) {
				t.Errorf("Fits, %s: %q, %v, %d", what, op, fits, e)
			}
		}
	}
	for typ, want := range map[string]api.Errno{"": api.ErrForm, wide(101): api.ErrLimit, "nowhere": api.ErrNone, "set": api.ErrNone, "set[set[int]]": api.ErrFit, "set[?t]": api.ErrFit} {
		for _, list := range [][]api.Need{nil, needs(hasLt)} {
			if op, fits, e := face.Fits(examples(), nil, list, typ); e != want || !isEmpty(op, fits) {
				t.Errorf("Fits(%s): %q, %v, %d", typ, op, fits, e)
			}
		}
	}
	// The faces come ahead of the needs, and these ahead of what is wanted.
	wrong := noNeeds()["twice"]
	if _, _, e := face.Fits(noLibraries()["twice"].faces, wrong, wrong, "!"); e != api.ErrTwice {
		t.Errorf("faces: %d", e)
	}
	if _, _, e := face.Fits(nil, wrong, nil, "!"); e != api.ErrFace {
		t.Errorf("needs: %d", e)
	}
}
