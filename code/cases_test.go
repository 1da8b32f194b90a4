package code_test

import (
	"bytes"
	"maps"
	"slices"
	"strings"
	"testing"

	"argus/api"
	"argus/code"
	"argus/flow"
)

// spacious returns a procedure of 700 registers (words, references and iterations by turns), slots of both kinds by turns, and
// 600 blocks, with one to which no way leads: whatever it reads need not be written.
func spacious(b api.Block) api.Flow {
	f := proc("p", strings.Repeat("wri", 234)[:700])
	for i := range 60 {
		f.Slots = append(f.Slots, uint8(1+i%2))
	}
	f.Blocks = slices.Repeat([]api.Block{block(ret(-1))}, 600)
	f.Blocks[1] = b
	return f
}

// codeOfBlock returns the code of the block of a spacious flow.
func codeOfBlock(t *testing.T, f api.Flow) []byte {
	t.Helper()
	o := must[api.Object](t, f.Blocks[1])(code.Encode(f))
	at := must[[]int](t, o)(code.Blocks(o.Code))
	return o.Code[at[1]:at[2]]
}

// N1: what is written for each instruction.
func TestCodeOfInstructions(t *testing.T) {
	for _, x := range []struct {
		ins  api.Ins
		want []byte
	}{
		{number(300, 1000000000), bytesOf(1, 1, 44, 59, 154, 202, 0)},
		{number(3, -1000000000), bytesOf(1, 0, 3, 196, 101, 54, 0)},
		{number(0, -1), bytesOf(1, 0, 0, 255, 255, 255, 255)},
		{number(699, 258), bytesOf(1, 2, 187, 0, 0, 1, 2)},
		{move(301, 4), bytesOf(2, 1, 45, 0, 4)},
		{ins(api.InsLt, 300, 3, 258), bytesOf(3, 1, 44, 0, 3, 1, 2)},
		{ins(api.InsLe, 3, 300, 0), bytesOf(4, 0, 3, 1, 44, 0, 0)},
		{ins(api.InsEq, 3, 301, 1), bytesOf(5, 0, 3, 1, 45, 0, 1)},
		{ins(api.InsAnd, 0, 300, 6), bytesOf(6, 0, 0, 1, 44, 0, 6)},
		{ins(api.InsOr, 300, 9, 303), bytesOf(7, 1, 44, 0, 9, 1, 47)},
		{ins(api.InsNot, 303, 300, 0), bytesOf(8, 1, 47, 1, 44)},
		{api.Ins{Op: api.InsNew, To: 301, N: 1}, bytesOf(9, 1, 45, 1)},
		{api.Ins{Op: api.InsMake, To: 304, N: 5, Args: []int{300}}, bytesOf(10, 1, 48, 5, 1, 1, 44)},
		{api.Ins{Op: api.InsMake, To: 1, N: 0, Args: []int{0, 1, 3, 4, 300, 301}}, bytesOf(10, 0, 1, 0, 6, 0, 0, 0, 1, 0, 3, 0, 4, 1, 44, 1, 45)},
		{api.Ins{Op: api.InsGet, To: 300, A: 301, N: 4}, bytesOf(11, 1, 44, 1, 45, 4)},
		{api.Ins{Op: api.InsSet, A: 301, B: 300, N: 3}, bytesOf(12, 1, 45, 1, 44, 3)},
		{ins(api.InsTag, 300, 304, 0), bytesOf(13, 1, 44, 1, 48)},
		{ins(api.InsSize, 303, 301, 0), bytesOf(14, 1, 47, 1, 45)},
		{put(300), bytesOf(15, 1, 44)},
		{ins(api.InsClose, 0, 302, 0), bytesOf(16, 1, 46)},
		{api.Ins{Op: api.InsLoad, To: 301, N: 59}, bytesOf(17, 1, 45, 59)},
		{api.Ins{Op: api.InsSpill, A: 300, N: 58}, bytesOf(18, 1, 44, 58)},
	} {
		f := spacious(block(goTo(599), x.ins, x.ins))
		want := bytes.Join([][]byte{{2}, x.want, x.want, {1, 2, 87}}, nil)
		if b := codeOfBlock(t, f); !bytes.Equal(b, want) {
			t.Errorf("N1: %+v: %v, not %v", x.ins, b, want)
		}
		if g := must[api.Flow](t, x.ins)(code.Decode(must[api.Object](t, x.ins)(code.Encode(f)))); !same(g, f) {
			t.Errorf("N2: %+v: %+v", x.ins, g.Blocks[1])
		}
	}
}

// N1: what is written for each end.
func TestCodeOfEnds(t *testing.T) {
	tried := api.Ins{Op: api.TryStore, A: 301, B: 300, Args: []int{303}}
	for _, x := range []struct {
		end  api.End
		want []byte
	}{
		{goTo(300), bytesOf(1, 1, 44)},
		{branch(300, 257, 599), bytesOf(2, 1, 44, 1, 1, 2, 87)},
		{ret(-1), bytesOf(3, 255, 255)},
		{signal("s1"), bytesOf(4, 2, 's', '1')},
		{signal("abcdefghijkl"), bytesOf(4, 12, 'a', 'b', 'c', 'd', 'e', 'f', 'g', 'h', 'i', 'j', 'k', 'l')},
		{try(ins(api.TryAdd, 300, 3, 0), 2), bytesOf(5, 30, 1, 44, 0, 3, 0, 0, 0, 2, 0, 255, 255)},
		{try(ins(api.TrySub, 3, 300, 0), 2), bytesOf(5, 31, 0, 3, 1, 44, 0, 0, 0, 2, 0, 255, 255)},
		{try(ins(api.TryMul, 3, 0, 300), 256), bytesOf(5, 32, 0, 3, 0, 0, 1, 44, 1, 0, 0, 255, 255)},
		{caught(try(ins(api.TryDiv, 300, 3, 0), 2), "overflow", 258, "others", 0), bytesOf(5, 33, 1, 44, 0, 3, 0, 0, 0, 2, 1, 8, 'o', 'v', 'e', 'r', 'f', 'l', 'o', 'w', 1, 2, 0, 0)},
		{caught(try(ins(api.TryMod, 300, 3, 0), 2), "b", 3, "a", 4), bytesOf(5, 34, 1, 44, 0, 3, 0, 0, 0, 2, 2, 1, 'b', 0, 3, 1, 'a', 0, 4, 255, 255)},
		{try(ins(api.TryAddh, 0, 301, 300), 2), bytesOf(5, 35, 1, 45, 1, 44, 0, 2, 0, 255, 255)},
		{caught(try(ins(api.TryRemh, 300, 301, 0), 2), "others", 599), bytesOf(5, 36, 1, 44, 1, 45, 0, 2, 0, 2, 87)},
		{try(ins(api.TryFetch, 301, 304, 300), 2), bytesOf(5, 37, 1, 45, 1, 48, 1, 44, 0, 2, 0, 255, 255)},
		{try(tried, 2), bytesOf(5, 38, 1, 45, 1, 44, 1, 1, 47, 0, 2, 0, 255, 255)},
		{call("q", -1, 300), bytesOf(6, 0, 0, 0, 255, 255, 1, 44, 0, 255, 255)},
		{caught(call("set$add", 301, 2, 300, 1, 0, 3, 4, 6), "s", 4, "others", 5), bytesOf(6, 0, 0, 6, 1, 44, 0, 1, 0, 0, 0, 3, 0, 4, 0, 6, 1, 45, 0, 2, 1, 1, 's', 0, 4, 0, 5)},
		{open("it", 302, 300), bytesOf(7, 0, 0, 0, 1, 46, 1, 44)},
		{open("it", 302, 2, 300, 301), bytesOf(7, 0, 0, 2, 1, 44, 1, 45, 1, 46, 0, 2)},
		{next(302, 300, 257, 258), bytesOf(8, 1, 46, 1, 44, 1, 1, 1, 2, 0, 255, 255)},
		{caught(next(302, 301, 2, 3), "low", 4, "others", 300), bytesOf(8, 1, 46, 1, 45, 0, 2, 0, 3, 1, 3, 'l', 'o', 'w', 0, 4, 1, 44)},
	} {
		f := spacious(block(x.end))
		want := slices.Concat([]byte{0}, x.want)
		if b := codeOfBlock(t, f); !bytes.Equal(b, want) {
			t.Errorf("N1: %+v: %v, not %v", x.end, b, want)
		}
		if g := must[api.Flow](t, x.end)(code.Decode(must[api.Object](t, x.end)(code.Encode(f)))); !same(g, f) {
			t.Errorf("N2: %+v: %+v", x.end, g.Blocks[1])
		}
	}
}

// N1: what is written of iterators, and of results.
func TestCodeOfResults(t *testing.T) {
	yields := iterator(proc("it", "rwi", block(yield(0, 1)), block(ret(-1))), 2, api.RegRef)
	yields.Slots, yields.Signals = []uint8{1, 2, 1}, []string{"a", "b12"}
	opened := iterator(proc("it", "i", block(open("it", 0, 1)), block(yield(0, 2)), block(signal("s"))), 0, api.RegIter)
	for _, x := range []struct {
		f    api.Flow
		want []byte
		head api.Head
	}{
		{yields, bytesOf(1, 2, 2, 0, 3, 2, 1, 3, 3, 1, 2, 1, 2, 1, 'a', 3, 'b', '1', '2', 0, 2, 0, 9, 0, 0, 0, 1, 0, 3, 255, 255), api.Head{Iter: true, Args: []uint8{2, 1}, Result: 2}},
		{opened, bytesOf(1, 0, 3, 0, 1, 3, 0, 0, 0, 3, 0, 7, 0, 0, 0, 0, 0, 0, 1, 0, 9, 0, 0, 0, 2, 0, 4, 1, 's'), api.Head{Iter: true, Result: 3}},
		{proc("p", "", block(ret(-1))), bytesOf(0, 0, 0, 0, 0, 0, 0, 0, 1, 0, 3, 255, 255), api.Head{}},
		{with(proc("p", "rw", block(ret(0))), 2, 2), bytesOf(0, 2, 2, 0, 2, 2, 1, 0, 0, 0, 1, 0, 3, 0, 0), api.Head{Args: []uint8{2, 1}, Result: 2}},
		{with(proc("p", "rw", block(ret(-1))), 1, 0), bytesOf(0, 1, 0, 0, 2, 2, 1, 0, 0, 0, 1, 0, 3, 255, 255), api.Head{Args: []uint8{2}}},
	} {
		o := must[api.Object](t, x.f)(code.Encode(x.f))
		n := must[int](t, x.f)(code.Length(x.f))
		if !bytes.Equal(o.Code, x.want) || o.Name != x.f.Name || n != len(x.want) {
			t.Errorf("N1: %v, %d, not %v", o, n, x.want)
		}
		if h := must[api.Head](t, x.f)(code.Front(x.want)); !same(h, x.head) {
			t.Errorf("N3: %v, not %v", h, x.head)
		}
		if f := must[api.Flow](t, x.f)(code.Decode(o)); !same(f, x.f) {
			t.Errorf("N2: %+v, not %+v", f, x.f)
		}
	}
}

// busy calls some routines, opens some, and has all sorts of ends.
func busy() api.Flow {
	f := with(proc("main", "wrwrwii",
		block(caught(call("q", 2, 1, 0, 1), "s", 5, "low", 4)),
		block(open("set$each", 5, 2, 1), number(4, -7), api.Ins{Op: api.InsSpill, A: 4, N: 0}),
		block(caught(next(5, 4, 3, 6), "others", 5), ins(api.InsLt, 2, 2, 0)),
		block(caught(try(api.Ins{Op: api.TryStore, A: 1, B: 4, Args: []int{2}}, 2), "bounds", 5)),
		block(call("main", -1, 5, 0, 1)),
		block(signal("s")),
		block(open("q", 6, 7), ins(api.InsClose, 0, 5, 0)),
		block(branch(4, 8, 0), api.Ins{Op: api.InsMake, To: 3, N: 2, Args: []int{0, 1, 2}}, api.Ins{Op: api.InsLoad, To: 4}),
		block(ret(4), put(4))), 2, api.RegWord)
	f.Slots, f.Signals = []uint8{1}, []string{"low", "s"}
	return f
}

// N1, N3: relocs are ascending, each with the name that stands there.
func TestRelocs(t *testing.T) {
	o := must[api.Object](t, busy())(code.Encode(busy()))
	places := must[[]int](t, o)(code.Calls(o.Code))
	var names []string
	for i, r := range o.Relocs {
		names = append(names, r.Name)
		if !bytes.Equal(o.Code[r.At:r.At+2], bytesOf(0, 0)) || r.At != places[i] {
			t.Errorf("N1: %v, %v", o.Relocs, places)
		}
	}
	if !slices.Equal(names, []string{"q", "set$each", "main", "q"}) || !slices.IsSorted(places) || len(places) != 4 {
		t.Errorf("N1: %v, %v", names, places)
	}
	// Two of them in code with other numbers; what stands there is a byte that says how many arguments there are, and one of an end.
	for i, n := range []int{65535, 256, 1, 2} {
		o.Code = put2(o.Code, places[i], n)
	}
	again := must[[]int](t, o)(code.Calls(o.Code))
	blocks := must[[]int](t, o)(code.Blocks(o.Code))
	if !slices.Equal(again, places) || len(blocks) != 9 || o.Code[blocks[1]] != 2 || o.Code[blocks[8]] != 1 || o.Code[blocks[8]-1] != 0 {
		t.Errorf("N3: %v, %v", again, blocks)
	}
	if f, e := code.Decode(o); e != api.ErrCode || !same(f, api.Flow{}) {
		t.Errorf("N2: %+v, %d", f, e)
	}
}

// N4: names by their indices.
func TestBack(t *testing.T) {
	o := must[api.Object](t, busy())(code.Encode(busy()))
	at := func(numbers ...int) []byte {
		b := o.Code
		for i, n := range numbers {
			b = put2(b, o.Relocs[i].At, n)
		}
		return b
	}
	bad := at(1, 1, 1, 1)
	bad[0] = 2
	names := []string{"main", "q", "set$each", "a b", strings.Repeat("n", 121), "", strings.Repeat("n", 120)}
	for _, x := range []struct {
		name  string
		b     []byte
		names []string
		want  api.Errno
		calls []string
	}{
		{"main", at(1, 2, 0, 1), names, api.OK, []string{"q", "set$each", "main", "q"}},
		{"other", at(6, 6, 0, 0), names, api.OK, []string{names[6], names[6], "main", "main"}},
		{"main", at(0, 0, 0, 0), []string{"!"}, api.OK, []string{"!", "!", "!", "!"}},
		{"main", at(1, 2, 0, 1), names[:2], api.ErrNone, nil},
		{"main", at(1, 0, 0, 1), names[:1], api.ErrNone, nil},
		{"main", at(0, 0, 0, 65535), names, api.ErrNone, nil},
		{"main", at(0, 0, 0, 256), names, api.ErrNone, nil},
		{"main", at(0, 0, 0, 0), nil, api.ErrNone, nil},
		{"a b", at(3, 3, 3, 7), names, api.ErrNone, nil},
		{"main", at(3, 0, 0, 0), names, api.ErrArg, nil},
		{"main", at(0, 0, 0, 4), names, api.ErrArg, nil},
		{"main", at(0, 5, 0, 0), names, api.ErrArg, nil},
		{"", at(0, 0, 0, 0), names, api.ErrArg, nil},
		{"a b", at(0, 0, 0, 0), names, api.ErrArg, nil},
		{names[4], at(0, 0, 0, 0), names, api.ErrArg, nil},
		{"", bad, nil, api.ErrCode, nil},
	} {
		f, e := code.Back(x.name, x.b, x.names)
		var want api.Flow
		if x.want == api.OK {
			want = plainNamed(busy(), x.name, x.calls)
		}
		if e != x.want || !same(f, want) {
			t.Errorf("N4: %q, %q: %d, not %d: %+v", x.name, x.names, e, x.want, f)
		}
	}
	many := slices.Repeat([]string{"n"}, 65536)
	many[65535] = "last"
	if f, e := code.Back("main", at(65535, 65534, 65535, 0), many); e != api.OK || !slices.Equal(routines(f), []string{"last", "n", "last", "n"}) {
		t.Errorf("N4: %d", e)
	}
	// Where nothing is called no names are asked for.
	if f, e := code.Back("sum", must[api.Object](t, sum())(code.Encode(sum())).Code, nil); e != api.OK || !same(f, sum()) {
		t.Errorf("N4: %+v, %d", f, e)
	}
}

// long returns a procedure whose code is too long.
func long() api.Flow {
	f := proc("p", "w")
	for range 40 {
		f.Blocks = append(f.Blocks, block(goTo(0), slices.Repeat([]api.Ins{number(0, 1)}, 80)...))
	}
	return f
}

// N1: the errors, the first of which counts.
func TestErrorsOfFlows(t *testing.T) {
	unwritten, wrong := sum(), sum()
	unwritten.Blocks[3].End.A = 2
	wrong.Name = ""
	withPhi := with(proc("p", "ww", block(goTo(1)), block(ret(1), phi(1, 0))), 1, api.RegWord)
	longWithPhi := long()
	longWithPhi.Blocks[1].Ins = slices.Insert(longWithPhi.Blocks[1].Ins, 0, api.Ins{Op: api.InsPhi, To: 0})
	longWithPhi.Blocks[0].End = ret(-1)
	longUnwritten := long()
	longUnwritten.Blocks[0].Ins[0] = put(0)
	wrongWithPhi := copied(withPhi)
	wrongWithPhi.Blocks[1].End.A = 3
	for i, x := range []struct {
		f      api.Flow
		encode api.Errno
		length api.Errno
	}{
		{api.Flow{}, api.ErrFlow, api.ErrFlow},
		{unwritten, api.ErrRead, api.ErrRead},
		{wrong, api.ErrFlow, api.ErrFlow},
		{withPhi, api.ErrArg, api.ErrArg},
		{wrongWithPhi, api.ErrFlow, api.ErrFlow},
		{longWithPhi, api.ErrArg, api.ErrArg},
		{longUnwritten, api.ErrRead, api.ErrRead},
		{long(), api.ErrLimit, api.OK},
		{sum(), api.OK, api.OK},
	} {
		o, e := code.Encode(x.f)
		if e != x.encode || e != api.OK && !same(o, api.Object{}) {
			t.Errorf("N1: %d: %d, not %d", i, e, x.encode)
		}
		n, e := code.Length(x.f)
		if e != x.length || (n == 0) != (e != api.OK) {
			t.Errorf("N1: %d: %d, %d, not %d", i, n, e, x.length)
		}
	}
	if e := flow.Check(longWithPhi); e != api.OK {
		t.Errorf("the test is wrong: %d", e)
	}
}

// changed returns the code of caller with other values from a place on.
func changed(at int, values ...int) []byte {
	b := codeOfCaller()
	copy(b[at:], bytesOf(values...))
	return b
}

// wrongFronts has bytes that are no code, each of which differs little from the code of caller, at the front or in its length.
func wrongFronts() map[string][]byte {
	b := codeOfCaller()
	return map[string][]byte{
		"nothing":                    nil,
		"one byte":                   {0},
		"neither iterator nor not":   changed(0, 2),
		"an iterator that returns":   changed(0, 1),
		"too many arguments":         changed(1, 2),
		"seven arguments":            changed(1, 7),
		"another result":             changed(2, 2),
		"no result":                  changed(2, 0),
		"a result that there is not": changed(2, 4),
		"a register more":            changed(4, 2),
		"no register":                slices.Delete(codeOfCaller(), 5, 6),
		"65535 registers":            changed(3, 255, 255),
		"a kind that there is not":   changed(5, 4),
		"a reference":                changed(5, 2),
		"a slot that there is not":   changed(6, 1),
		"a slot for iterations":      slices.Concat(b[:6], bytesOf(1, 3), b[7:]),
		"a signal that there is not": changed(7, 1),
		"signals twice":              slices.Concat(b[:7], bytesOf(2, 1, 'a', 1, 'a'), b[8:]),
		"a signal without a name":    slices.Concat(b[:7], bytesOf(1, 0), b[8:]),
		"a signal of great letters":  slices.Concat(b[:7], bytesOf(1, 1, 'A'), b[8:]),
		"a block more":               changed(9, 3),
		"a block less":               changed(9, 1),
		"no blocks":                  slices.Concat(b[:8], bytesOf(0, 0)),
		"65535 blocks":               changed(8, 255, 255),
		"a byte less":                slices.Delete(codeOfCaller(), 34, 35),
		"a byte more":                slices.Insert(codeOfCaller(), 35, 0),
		"a byte more ahead":          slices.Insert(codeOfCaller(), 0, 0),
		"it twice":                   slices.Concat(b, b),
	}
}

// wrongBlocks has bytes that are no code, each of which differs little from the code of caller, in a block.
func wrongBlocks() map[string][]byte {
	b := codeOfCaller()
	return map[string][]byte{
		"an instruction more":         changed(10, 2),
		"no instruction":              changed(10, 0),
		"an instruction 0":            changed(11, 0),
		"an instruction 20":           changed(11, 20),
		"a phi":                       changed(11, 19),
		"a phi without arguments":     slices.Concat(b[:11], bytesOf(19, 0, 0, 0), b[18:]),
		"a phi where no way leads":    bytesOf(0, 0, 0, 0, 1, 1, 0, 0, 0, 2, 0, 3, 255, 255, 1, 19, 3, 255, 255),
		"a try in a block":            slices.Concat(b[:11], bytesOf(30, 0, 0, 0, 0, 0, 0), b[18:]),
		"a register that is not":      changed(13, 1),
		"the register -1":             changed(12, 255, 255),
		"a number too great":          changed(14, 59, 154, 202, 1),
		"a number too small":          changed(14, 196, 101, 53, 255),
		"the least number":            changed(14, 128, 0, 0, 0),
		"an end 0":                    changed(18, 0),
		"an end 10":                   changed(18, 10),
		"an end that opens":           changed(18, 7),
		"an argument that is not":     changed(23, 1),
		"the argument -1":             changed(22, 255, 255),
		"seven registers given":       slices.Concat(b[:21], bytesOf(7, 0, 0, 0, 0, 0, 0, 0, 0, 0, 0, 0, 0, 0, 0), b[24:]),
		"a register not written":      slices.Concat(b[:10], bytesOf(0), b[18:]),
		"a block that is not":         changed(27, 2),
		"the block -1":                changed(26, 255, 255),
		"a handler that is not there": changed(28, 1),
		"handlers twice":              slices.Concat(b[:28], bytesOf(2, 1, 'a', 0, 1, 1, 'a', 0, 1), b[29:]),
		"a handler without a name":    slices.Concat(b[:28], bytesOf(1, 0, 0, 1), b[29:]),
		"a handler without a block":   slices.Concat(b[:28], bytesOf(1, 1, 'a', 255, 255), b[29:]),
		"others that are not":         changed(29, 0, 2),
		"others 65534":                changed(29, 255, 254),
		"a return of nothing":         changed(33, 255, 255),
		"a return of another":         changed(33, 0, 1),
		"a try that is none":          slices.Concat(b[:18], bytesOf(5, 2, 0, 0, 0, 0), b[26:]),
		"a try that there is not":     slices.Concat(b[:18], bytesOf(5, 39, 0, 0, 0, 0), b[26:]),
		"a signal with a blank":       slices.Concat(b[:32], bytesOf(4, 1, ' ')),
		"a signal of 13 letters":      slices.Concat(b[:32], bytesOf(4, 13), slices.Repeat(bytesOf('a'), 13)),
		"a yield of a procedure":      slices.Concat(b[:32], bytesOf(9, 0, 0, 0, 1)),
	}
}

// N2 to N4: bytes that are no code, and objects of no flow.
func TestNoCode(t *testing.T) {
	all := wrongFronts()
	maps.Copy(all, wrongBlocks())
	for what, b := range all {
		o := api.Object{Name: "main", Code: b, Relocs: []api.Reloc{{At: 19, Name: "sum"}}}
		if f, e := code.Decode(o); e != api.ErrCode || !same(f, api.Flow{}) {
			t.Errorf("N2: %s: %+v, %d", what, f, e)
		}
		if l, e := code.Calls(b); e != api.ErrCode || len(l) > 0 {
			t.Errorf("N3: %s: %v, %d", what, l, e)
		}
		if l, e := code.Blocks(b); e != api.ErrCode || len(l) > 0 {
			t.Errorf("N3: %s: %v, %d", what, l, e)
		}
		if h, e := code.Front(b); e != api.ErrCode || !same(h, api.Head{}) {
			t.Errorf("N3: %s: %v, %d", what, h, e)
		}
		if f, e := code.Back("", b, nil); e != api.ErrCode || !same(f, api.Flow{}) {
			t.Errorf("N4: %s: %+v, %d", what, f, e)
		}
	}
}

// N2: objects whose code is one, but which are not as they are to be.
func TestNoObjects(t *testing.T) {
	object := func(name string, relocs ...api.Reloc) api.Object {
		return api.Object{Name: name, Code: codeOfCaller(), Relocs: relocs}
	}
	numbered := object("main", api.Reloc{At: 19, Name: "sum"})
	numbered.Code[20] = 1
	for _, o := range []api.Object{
		{}, object("main"), numbered,
		object("", api.Reloc{At: 19, Name: "sum"}),
		object("ma in", api.Reloc{At: 19, Name: "sum"}),
		object(strings.Repeat("n", 121), api.Reloc{At: 19, Name: "sum"}),
		object("main", api.Reloc{At: 19}),
		object("main", api.Reloc{At: 19, Name: "s\xffm"}),
		object("main", api.Reloc{At: 19, Name: strings.Repeat("n", 121)}),
		object("main", api.Reloc{At: 20, Name: "sum"}),
		object("main", api.Reloc{At: -1, Name: "sum"}),
		object("main", api.Reloc{At: 1 << 62, Name: "sum"}),
		object("main", api.Reloc{At: 19, Name: "sum"}, api.Reloc{At: 19, Name: "sum"}),
		object("main", api.Reloc{At: 10, Name: "sum"}, api.Reloc{At: 19, Name: "sum"}),
		object("main", api.Reloc{At: 19, Name: "sum"}, api.Reloc{At: 1000, Name: "sum"}),
	} {
		if f, e := code.Decode(o); e != api.ErrCode || !same(f, api.Flow{}) {
			t.Errorf("N2: %v: %+v, %d", o, f, e)
		}
	}
	o := must[api.Object](t, busy())(code.Encode(busy()))
	swapped, moved := copied(o), copied(o)
	slices.Reverse(swapped.Relocs)
	moved.Relocs[1].At, moved.Relocs[2].At = moved.Relocs[2].At, moved.Relocs[1].At
	for _, o := range []api.Object{swapped, moved} {
		if f, e := code.Decode(o); e != api.ErrCode || !same(f, api.Flow{}) {
			t.Errorf("N2: %v: %+v, %d", o, f, e)
		}
	}
	// Names that differ alone make other flows.
	for _, x := range []struct{ name, called string }{{"main", "sum"}, {"main", "main"}, {"!", "~"}, {strings.Repeat("n", 120), strings.Repeat("m", 120)}} {
		f, e := code.Decode(object(x.name, api.Reloc{At: 19, Name: x.called}))
		if e != api.OK || !same(f, plainNamed(caller(), x.name, []string{x.called})) {
			t.Errorf("N2: %v: %+v, %d", x, f, e)
		}
	}
}
