package mean_test

import (
	"slices"
	"strings"
	"testing"

	"argus/api"
	"argus/mean"
)

// typed has clusters with all sorts of representations.
const typed = `
cluster alias[t] is f rep = ?t proc f() is end end
cluster circle is f rep = alias[circle] proc f() is end end
cluster spiral[t] is f rep = alias[spiral[array[?t]]] proc f() is end end
cluster swap is f rep = alias[swapped] proc f() is end end
cluster swapped is f rep = alias[swap] proc f() is end end
cluster through is f rep = alias[alias[coin]] proc f() is end end
cluster phantom[t] is f rep = int proc f() is end end
cluster fine is f rep = phantom[circle] proc f() is end end
cluster loop is f rep = record[next:loop,v:int] proc f() is end end
cluster tall[t] is f rep = array[array[array[?t]]] proc f() is end end
cluster plain is f rep = null proc f() is end end
`

const smallTown = `
cluster bag[t] is new where t has equal: proc(?t, ?t) returns bool rep = array[?t] proc new() returns bag[?t] is return up(array[?t]$new()) end end
cluster box[t] is new rep = record[v:?t] proc new(x: ?t) returns box[?t] is return up(record[v:?t]$make(x)) end end
cluster coin is make, equal rep = bool proc make(b: bool) returns coin is return up(b) end proc equal(c: coin, d: coin) returns bool is return true end end
cluster list[t] is empty rep = oneof[none:null,some:record[first:?t,rest:list[?t]]] proc empty() returns list[?t] is end end
proc say(n: int) is end
`

func TestBottoms(t *testing.T) {
	p := programOf(t, smallTown, typed)
	for of, want := range map[string]string{
		"int": "int", "bool": "bool", "null": "null", "array[box[int]]": "array[box[int]]", "record[a:coin]": "record[a:coin]", "oneof[a:coin]": "oneof[a:coin]",
		"coin": "bool", "box[int]": "record[v:int]", "box[box[coin]]": "record[v:box[coin]]", "bag[coin]": "array[coin]", "bag[array[int]]": "array[array[int]]",
		"list[int]": "oneof[none:null,some:record[first:int,rest:list[int]]]", "alias[int]": "int", "alias[alias[box[coin]]]": "record[v:coin]", "through": "bool", "phantom[circle]": "int", "fine": "int",
		"alias[circle]": "", "circle": "", "spiral[int]": "", "swap": "", "swapped": "", "alias[swap]": "", "loop": "record[next:loop,v:int]", "array[circle]": "array[circle]",
		"tall[array[array[int]]]": "array[array[array[array[array[int]]]]]", "tall[array[array[array[int]]]]": "", "alias[tall[array[array[array[int]]]]]": "", "tall[box[box[box[int]]]]": "", "phantom[tall[array[array[int]]]]": "int", "plain": "null",
	} {
		e := api.OK
		if want == "" {
			e = api.ErrLimit
		}
		if b, f := mean.Bottom(p, of); b != want || f != e {
			t.Errorf("F4: Bottom(%s): %q, %d, not %q, %d", of, b, f, want, e)
		}
		if b := plainBottom(p, of); b != want {
			t.Errorf("F4: %s: the second way: %q, not %q", of, b, want)
		}
	}
	w := wide(t, 92)
	for of, want := range map[string]api.Errno{"alias[" + w + "]": api.OK, "box[" + wide(t, 88) + "]": api.OK, "box[" + wide(t, 89) + "]": api.OK, "box[" + wide(t, 90) + "]": api.OK, "box[" + wide(t, 91) + "]": api.ErrLimit, "box[" + w + "]": api.ErrLimit} {
		if _, e := mean.Bottom(p, of); e != want {
			t.Errorf("F4: Bottom(%s): %d, not %d", of, e, want)
		}
	}
	for _, of := range noTypes() {
		if b, e := mean.Bottom(p, of); b != "" || e != api.ErrArg {
			t.Errorf("F4: Bottom(%q): %q, %d", of, b, e)
		}
	}
}

// noTypes returns texts that are no closed types that are good.
func noTypes() []string {
	return []string{"", "?t", "array[?t]", "box[?t]", "box", "coin[int]", "nowhere", "say", "array[nowhere]", "bag[box[int]]", "bag[bag[int]]", "record[v:bag[box[int]]]", "array[ int]", "record[b:int,a:int]", "record[]", "proc", "int[int]",
		strings.Repeat("array[", 6) + "int" + strings.Repeat("]", 6), "record[" + strings.Repeat("a", 200) + ":int]", "\xff"}
}

func TestFits(t *testing.T) {
	p := programOf(t, smallTown, typed)
	list := "array[int]"
	for _, x := range []struct {
		heap, values, types string
		want                bool
	}{
		{"", "", "", true},
		{"array 1 true", "", "", true},
		{"", "1", "int", true}, {"", "true", "int", false}, {"", "nil", "int", false}, {"array", "@0", "int", false},
		{"", "1", "bool", false}, {"", "false", "bool", true}, {"", "nil", "bool", false}, {"array", "@0", "bool", false},
		{"", "0", "null", false}, {"", "false", "null", false}, {"", "nil", "null", true}, {"array", "@0", "null", false},
		{"", "true", "coin", true}, {"", "1", "coin", false}, {"", "1", "phantom[int]", true}, {"", "1", "fine", true}, {"", "nil", "plain", true},
		{"", "1 true nil 2", "int bool null int", true}, {"", "1 true nil true", "int bool null int", false}, {"", "1 2", "int bool", false}, {"", "true 2", "int int", false},
		{"array", "@0", list, true}, {"array 1 2", "@0", list, true}, {"array 1 true", "@0", list, false}, {"array true 1", "@0", list, false}, {"array nil", "@0", list, false}, {"array", "1", list, false}, {"array", "nil", list, false},
		{"record 1", "@0", list, false}, {"oneof0 1", "@0", list, false},
		{"array 1", "@0", "bag[int]", true}, {"array true", "@0", "bag[int]", false}, {"array true", "@0", "bag[coin]", true}, {"array true", "@0", "array[coin]", true},
		{"record 1", "@0", "record[v:int]", true}, {"record 1", "@0", "box[int]", true}, {"record 1", "@0", "record[v:bool]", false}, {"record 1", "@0", "oneof[v:int]", false}, {"array 1", "@0", "record[v:int]", false},
		{"record 1 true", "@0", "record[a:int,b:bool]", true}, {"record 1 true", "@0", "record[a:int,b:coin]", true}, {"record true 1", "@0", "record[a:int,b:bool]", false}, {"record 1 2", "@0", "record[a:int,b:bool]", false},
		{"record 1", "@0", "record[a:int,b:int]", false}, {"record 1 2", "@0", "record[a:int]", false}, {"record 1 2 3 4 5 6", "@0", "record[a:int,b:int,c:int,d:int,e:int,f:int]", true},
		{"oneof0 1", "@0", "oneof[a:int]", true}, {"oneof1 1", "@0", "oneof[a:int]", false}, {"oneof5 1", "@0", "oneof[a:int]", false}, {"oneof0 true", "@0", "oneof[a:int]", false}, {"record 1", "@0", "oneof[a:int]", false},
		{"oneof1 true", "@0", "oneof[a:int,b:bool]", true}, {"oneof0 true", "@0", "oneof[a:int,b:bool]", false}, {"oneof1 1", "@0", "oneof[a:int,b:bool]", false}, {"oneof5 nil", "@0", "oneof[a:int,b:int,c:int,d:int,e:int,f:null]", true},
		{"array @1; array 1", "@0", "array[array[int]]", true}, {"array @1; array 1", "@0", "array[array[bool]]", false}, {"array @1; array 1", "@0", "array[int]", false}, {"array @1 @2; array 1; array true", "@0", "array[array[int]]", false},
		{"array @1; record 1", "@0", "array[box[int]]", true}, {"record @1; record 1", "@0", "box[box[int]]", true}, {"record @1; record 1", "@0", "box[box[bool]]", false},
		// an object with two bottoms
		{"array", "@0 @0", list + " " + list, true}, {"array", "@0 @0", list + " array[bool]", false}, {"array", "@0 @0", list + " bag[int]", true}, {"array", "@0 @0", "bag[bool] " + list, false},
		{"record 1", "@0 @0", "box[int] record[v:int]", true}, {"record 1", "@0 @0", "box[int] record[w:int]", false}, {"array", "@0 @0", "array[coin] array[bool]", false}, {"array true", "@0 @0", "array[coin] bag[coin]", true},
		{"record @1 @1; array", "@0", "record[a:array[int],b:array[int]]", true}, {"record @1 @1; array", "@0", "record[a:array[int],b:array[bool]]", false}, {"record @1 @2; array; array", "@0", "record[a:array[int],b:array[bool]]", true},
		{"array @1; array", "@0 @1", "array[array[int]] array[int]", true}, {"array @1; array", "@0 @1", "array[array[int]] array[bool]", false}, {"array @1; array", "@1 @0", "array[bool] array[array[int]]", false},
		{"array @2; array @2; array", "@0 @1", "array[array[int]] array[array[bool]]", false}, {"array @2; array @2; array", "@0 @1", "array[array[int]] array[array[int]]", true},
		// circles
		{"oneof1 @1; record 1 @0", "@0", "list[int]", true}, {"oneof1 @1; record true @0", "@0", "list[int]", false}, {"oneof1 @1; record 1 @0", "@0 @1", "list[int] record[first:int,rest:list[int]]", true}, {"oneof1 @1; record 1 @1", "@0", "list[int]", false},
		{"record @0 1", "@0", "loop", true}, {"record @1 1; record @0 2", "@0 @1", "loop record[next:loop,v:int]", true}, {"record @0 true", "@0", "loop", false}, {"record @0", "@0", "box[loop]", false}, {"record @1; record @1 4", "@0", "box[loop]", true},
		{"array @0", "@0", "array[array[int]]", false},
		// types without a bottom
		{"", "1", "circle", false}, {"array", "@0", "circle", false}, {"array", "@0", "array[circle]", true}, {"array 1", "@0", "array[circle]", false}, {"array @0", "@0", "array[circle]", false}, {"", "nil", "swap", false}, {"", "true", "spiral[int]", false},
		{"array", "@0", "tall[array[array[array[int]]]]", false}, {"array", "@0", "tall[array[array[int]]]", true}, {"record @1; array", "@0", "record[a:tall[array[array[array[int]]]]]", false},
		// what is not met does not matter
		{"array 1 true; record @0", "1", "int", true}, {"array 1 true; array 1", "@1", list, true},
	} {
		types := strings.Fields(x.types)
		is, e := mean.Fits(p, heap(x.heap), vals(x.values), types)
		if is != x.want || e != api.OK {
			t.Errorf("F4: Fits of %s with %s and %s: %v, %d", x.values, x.heap, x.types, is, e)
		}
		if plainFits(p, heap(x.heap), vals(x.values), types) != x.want {
			t.Errorf("F4: %s with %s and %s: the second way says no", x.values, x.heap, x.types)
		}
	}
}

func TestErrorsOfFits(t *testing.T) {
	p := programOf(t, smallTown, typed)
	ask := func(what string, h []api.Obj, v []api.Value, types ...string) {
		t.Helper()
		if is, e := mean.Fits(p, h, v, types); is || e != api.ErrArg {
			t.Errorf("F4: Fits of %s: %v, %d", what, is, e)
		}
	}
	for _, of := range noTypes() {
		ask(of, nil, vals("1"), of)
		ask(of+" behind", nil, vals("1 true"), "int", of)
		ask(of+" behind what does not fit", nil, vals("true true"), "int", of)
	}
	ask("too few", nil, vals("1"), "int", "int")
	ask("too many", nil, vals("1 1"), "int")
	ask("none", nil, nil, "int")
	ask("no types", nil, vals("1"))
	for _, v := range noValues() {
		ask(showValue(v), heap("array; array"), []api.Value{v}, "int")
	}
	for _, h := range openHeaps() {
		ask(showHeap(h), h, vals("1"), "int")
	}
}

// noValues returns what is no value in a heap of two objects.
func noValues() []api.Value {
	return []api.Value{
		{}, {Kind: 5}, {Kind: 255}, {N: 1}, {Kind: api.ValInt, N: 1000000001}, {Kind: api.ValInt, N: -1000000001}, {Kind: api.ValInt, N: 1<<63 - 1}, {Kind: api.ValInt, N: -1 << 63},
		{Kind: api.ValBool, N: 2}, {Kind: api.ValBool, N: -1}, {Kind: api.ValNil, N: 1}, {Kind: api.ValNil, N: -1}, {Kind: api.ValRef, N: 2}, {Kind: api.ValRef, N: -1}, {Kind: api.ValRef, N: 1<<63 - 1},
	}
}

// openHeaps returns heaps that are not closed, each for one reason.
func openHeaps() [][]api.Obj {
	l := [][]api.Obj{
		slices.Repeat(heap("array"), 5001),
		{{}}, {{Kind: 4}}, {{Kind: 255}}, {{Kind: 0, Vals: vals("1")}},
		{{Kind: api.ObjArray, Tag: 1}}, {{Kind: api.ObjArray, Tag: -1}}, {{Kind: api.ObjArray, Vals: slices.Repeat(vals("1"), 201)}},
		{{Kind: api.ObjRecord, Tag: 1, Vals: vals("1")}}, {{Kind: api.ObjRecord}}, heap("record 1 2 3 4 5 6 7"),
		{{Kind: api.ObjOneof}}, heap("oneof0 1 2"), heap("oneof6 1"), {{Kind: api.ObjOneof, Tag: -1, Vals: vals("1")}},
		heap("array 1; array @2"), heap("array @1"), heap("array @-1"), heap("array; record 1 1000000001"),
	}
	for _, v := range noValues() {
		l = append(l, []api.Obj{{Kind: api.ObjArray}, {Kind: api.ObjArray, Vals: []api.Value{{Kind: api.ValNil}, v}}})
	}
	return l
}

// Heaps that are closed, as large as may be.
func closedHeaps() [][]api.Obj {
	return [][]api.Obj{
		nil, slices.Repeat(heap("array"), 5000), {{Kind: api.ObjArray, Vals: slices.Repeat(vals("1"), 200)}}, heap("record 1 2 3 4 5 6"), heap("record 1"), heap("oneof5 1"), heap("oneof0 1"),
		heap("array @0 @0"), heap("array @1; array @0"), heap("array 1000000000 -1000000000 true false nil"),
	}
}

// The functions with heaps ask whether these are closed, all in the same way.
func TestClosedHeaps(t *testing.T) {
	p := programOf(t, town)
	asked := func(h []api.Obj) []api.Errno {
		_, _, e := mean.Call(p, h, "say", vals("1"), many)
		_, _, _, f := mean.Each(p, h, "upto", vals("1 1"), many, 1)
		_, g := mean.Fits(p, h, nil, nil)
		_, a := mean.Alike(h, nil, nil, nil)
		_, b := mean.Alike(nil, nil, h, nil)
		_, _, c := mean.Reached(h, nil)
		return []api.Errno{e, f, g, a, b, c}
	}
	for _, h := range closedHeaps() {
		if l := asked(h); !slices.Equal(l, make([]api.Errno, 6)) {
			t.Errorf("%.100s: %d", showHeap(h), l)
		}
	}
	for _, h := range openHeaps() {
		if l := asked(h); !slices.Equal(l, slices.Repeat([]api.Errno{api.ErrArg}, 6)) {
			t.Errorf("%.100s: %d", showHeap(h), l)
		}
	}
}

// Long ways through a heap.
func TestLongWays(t *testing.T) {
	p := programOf(t, smallTown, typed)
	var h []api.Obj
	for i := range 5000 {
		h = append(h, api.Obj{Kind: api.ObjRecord, Vals: []api.Value{{Kind: api.ValRef, N: (i + 1) % 5000}, {Kind: api.ValInt, N: i}}})
	}
	if is, e := mean.Fits(p, h, vals("@7"), []string{"loop"}); !is || e != api.OK {
		t.Errorf("F4: %v, %d", is, e)
	}
	h[6].Vals[1].Kind = api.ValRef
	if is, e := mean.Fits(p, h, vals("@7"), []string{"loop"}); is || e != api.OK {
		t.Errorf("F4: %v, %d", is, e)
	}
	g, v, e := mean.Reached(h, vals("@7"))
	if len(g) != 5000 || showValues(v) != "@0" || e != api.OK || g[4999].Vals[0].N != 0 || g[4992].Vals[1].N != 4999 {
		t.Errorf("F5: %d objects, %s, %d", len(g), showValues(v), e)
	}
	if !areAlike(t, h, vals("@7"), g, v) || areAlike(t, h, vals("@8"), g, v) {
		t.Error("F5: Alike")
	}
}
