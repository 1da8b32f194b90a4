package face_test

import (
	"strings"
	"testing"

	"argus/api"
	"argus/face"
)

func lines(l ...string) string { return strings.Join(l, "\n") + "\n" }

// texts has faces beside their texts.
func texts() map[string]api.Face {
	return map[string]api.Face{
		lines("proc sort[t]", "has lt proc(?t,?t) returns bool", "op sort proc(array[?t])"):                                                      sortFace(),
		lines("cluster set[t]", "has equal proc(?t,?t) returns bool", "op new proc() returns set[?t]", "op holds proc(set[?t],?t) returns bool"): set(),
		lines("proc a", "op a proc()"):                            newFace("proc a", "op a proc()"),
		lines("proc a", "op a proc() signals(x)"):                 newFace("proc a", "op a proc() signals(x)"),
		lines("proc a", "op a proc() returns int signals(x,y,z)"): newFace("proc a", "op a proc() returns int signals(x,y,z)"),
		lines("iter a", "op a iter(record[a:int,b:bool],oneof[a:record[b:int,c:null],d:int]) yields record[a:int,b:int] signals(x)"): newFace("iter a", "op a iter(record[a:int,b:bool],oneof[a:record[b:int,c:null],d:int]) yields record[a:int,b:int] signals(x)"),
		lines("iter a[t]", "op a iter(int,?t) yields ?t"):                                                                                             newFace("iter a[t]", "op a iter(int,?t) yields ?t"),
		lines("cluster op", "op op proc(op) returns op", "op b iter() yields op signals(op)"):                                                         newFace("cluster op", "op op proc(op) returns op", "op b iter() yields op signals(op)"),
		lines("cluster c[t]", "has a iter(int) yields ?t signals(d,e)", "has b proc()", "op z proc(nowhere)", "op y proc() returns c", "op x proc()"): newFace("cluster c[t]", "has a iter(int) yields ?t signals(d,e)", "has b proc()", "op z proc(nowhere)", "op y proc() returns c", "op x proc()"),
	}
}

func TestWriteAndRead(t *testing.T) {
	for text, f := range texts() {
		if got, e := face.Write(f); got != text || e != api.OK {
			t.Errorf("Write: %q, not %q, %d", got, text, e)
		}
		if got, e := face.Read(text); !isSame(got, f) || e != api.OK {
			t.Errorf("Read(%q): %s, %d", text, show(got), e)
		}
	}
}

func TestWriteOfTheLargest(t *testing.T) {
	text, e := face.Write(full())
	if e != api.OK || strings.Count(text, "\n") != 25 {
		t.Fatalf("Write: %q, %d", text, e)
	}
	if f, e := face.Read(text); e != api.OK || !isSame(f, full()) {
		t.Errorf("Read: %d", e)
	}
}

func TestErrorsOfWrite(t *testing.T) {
	for what, f := range map[string]api.Face{"zero": {}, "no operation": newFace("proc a"), "open": newFace("proc a", "op a proc(?t)"), "kind": {Name: "a", Kind: 4, Ops: ops("a proc()")}, "a blank": {Name: "a", Kind: 1, Ops: ops("a proc(int )")}} {
		if s, e := face.Write(f); s != "" || e != api.ErrFace {
			t.Errorf("Write, %s: %q, %d", what, s, e)
		}
	}
}

// noTexts has texts of no face.
func noTexts() []string {
	l := []string{
		"", "\n", "proc", "proc a", "proc a\n", lines("proc a", "op a proc()") + "\n", "\n" + lines("proc a", "op a proc()"), "proc a\nop a proc()", lines("proc a", "op a proc()", "op a proc()"), lines("proc a", "op b proc()"), lines("proc a", "proc a", "op a proc()"), lines("proc a", "op a proc()", "proc a"), lines("op a proc()", "proc a"),
		lines("cluster a[t]", "op b proc()", "has c proc()"), lines("cluster a[t]", "has c proc()", "has b proc()", "op b proc()"), lines("cluster a", "has c proc()", "op b proc()"), lines("cluster a[t]", "op b proc()", "op b proc()"), lines("cluster a"), lines("has a proc()"), lines("op a proc()"),
		lines("proc a[?t]", "op a proc()"), lines("proc a[u]", "op a proc()"), lines("proc a [t]", "op a proc()"), lines("proc a[t][t]", "op a[t] proc()"), lines("proc  a", "op a proc()"), lines(" proc a", "op a proc()"), lines("proc a ", "op a proc()"), lines("procs a", "op a proc()"), lines("module a", "op a proc()"), lines(" a", "op a proc()"), lines("proc end", "op end proc()"), lines("iter a", "op a proc()"), lines("iter a", "op a iter()"), lines("proc a", "op a iter() yields int"), lines("cluster a", "op mod proc()"), lines("cluster a", "op get_a proc()"), lines("cluster a", "op  proc()"),
		"proc a\r\nop a proc()\r\n", lines("proc a", "") + "op a proc()\n", lines("proc a", "op a proc()", "%"), lines("proc a\x00", "op a proc()"), strings.Repeat("proc a\n", 100000), strings.Repeat("has a proc()\n", 100000), strings.Repeat("[", 100000), "proc a\nop a proc(" + strings.Repeat(",", 100000) + ")\n",
	}
	for _, sig := range []string{
		"", "proc", "proc(", "proc)", "()", "proc( )", "proc(int,)", "proc(,)", "proc(,int)", "proc(int, int)", "proc(int;int)", "proc (int)", "procs()", "proc() returns", "proc() returns ", "proc()  returns int", "proc() returns  int", "proc() returns int ", "proc() returnsint", "proc()returns int", "proc() yields int", "proc() returns int yields int", "proc() returns int returns int", "proc() returns ?t", "proc(?t)",
		"proc() signals()", "proc() signals(", "proc() signals(a", "proc() signals(a))", "proc() signals(b,a)", "proc() signals(a,a)", "proc() signals(a,)", "proc() signals(a, b)", "proc() signals (a)", "proc() signals(a) returns int", "proc() signals(a) signals(b)", "proc() signal(a)", "proc() returns int signals()", "proc() returns intsignals(a)", "proc()) signals(a)", "proc() x", "proc()x", "proc(int))", "proc((int)", "proc(array[int)", "proc(record[b:int,a:int])", "proc(record[a:int,b:int)", "proc(int],[int)", "proc(int,int,int,int,int,int,int)", "proc(" + wide(101) + ")", "proc(" + nested(7, "int") + ")", "proc() signals(a,b,c,d,e,f,g)", "proc(int) returns int,int", "proc(\n)",
	} {
		l = append(l, lines("proc a", "op a "+sig))
		if !strings.Contains(sig, "?t") {
			l = append(l, lines("proc a[t]", "has b "+sig, "op a proc()"))
		}
	}
	return l
}

func TestReadOfOtherTexts(t *testing.T) {
	for _, s := range noTexts() {
		if f, e := face.Read(s); e != api.ErrForm || !isEmpty(f) {
			t.Errorf("Read(%.200q): %s, %d", s, show(f), e)
		}
	}
}

// Texts that differ from one of a face in one byte are that of another face, or of none.
func TestReadOfChangedTexts(t *testing.T) {
	for text := range texts() {
		for i := range len(text) {
			for _, b := range []string{"", " ", "\n", "a", "[", "]", ",", "(", ")", "?", "\x80"} {
				for _, s := range []string{text[:i] + b + text[i:], text[:i] + b + text[i+1:]} {
					askRead(t, s)
				}
			}
		}
	}
}

// askRead asks whether what is read is written as it was (P4.6).
func askRead(t *testing.T, s string) {
	t.Helper()
	f, e := face.Read(s)
	if e != api.OK {
		if e != api.ErrForm || !isEmpty(f) {
			t.Errorf("Read(%q): %s, %d", s, show(f), e)
		}
		return
	}
	if again, e := face.Write(f); again != s || e != api.OK {
		t.Errorf("P4.6: %q, then %q, %d", s, again, e)
	}
}
