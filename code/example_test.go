package code_test

import (
	"bytes"
	"slices"
	"testing"

	"argus/api"
	"argus/code"
	"argus/flow"
)

// sum is the chapter's f: the flow of chapter 8.
func sum() api.Flow {
	return with(proc("sum", "www",
		block(goTo(1), number(1, 0)),
		block(branch(0, 2, 3)),
		block(try(ins(api.TryAdd, 1, 1, 0), 4), number(2, -1)),
		block(ret(1)),
		block(try(ins(api.TryAdd, 0, 0, 2), 1)),
	), 1, api.RegWord)
}

// caller is the chapter's c.
func caller() api.Flow {
	return with(proc("main", "w", block(call("sum", 0, 1, 0), number(0, -2)), block(ret(0))), 0, api.RegWord)
}

func codeOfCaller() []byte {
	return bytesOf(0, 0, 1, 0, 1, 1, 0, 0, 0, 2, 1, 1, 0, 0, 255, 255, 255, 254, 6, 0, 0, 1, 0, 0, 0, 0, 0, 1, 0, 255, 255, 0, 3, 0, 0)
}

func TestExamplesOfObjects(t *testing.T) {
	want := api.Object{Name: "main", Code: codeOfCaller(), Relocs: []api.Reloc{{At: 19, Name: "sum"}}}
	if o, e := code.Encode(caller()); e != api.OK || !same(o, want) {
		t.Errorf("N1: %v, %d", o, e)
	}
	if f, e := code.Decode(want); e != api.OK || !same(f, caller()) {
		t.Errorf("N2: %+v, %d", f, e)
	}
	for f, want := range map[*api.Flow]int{new(caller()): 35, new(sum()): 70} {
		if n, e := code.Length(*f); e != api.OK || n != want {
			t.Errorf("N1: %d, %d", n, e)
		}
	}
	longer, other := copied(want), copied(want)
	longer.Code = append(longer.Code, 0)
	other.Relocs[0].At = 18
	for _, o := range []api.Object{longer, other} {
		if f, e := code.Decode(o); e != api.ErrCode || !same(f, api.Flow{}) {
			t.Errorf("N2: %+v, %d", f, e)
		}
	}
}

func TestExamplesOfPlaces(t *testing.T) {
	b := codeOfCaller()
	calls, e := code.Calls(b)
	blocks, err := code.Blocks(b)
	front, failed := code.Front(b)
	if e != api.OK || err != api.OK || failed != api.OK {
		t.Errorf("N3: %d, %d, %d", e, err, failed)
	}
	if !slices.Equal(calls, []int{19}) || !slices.Equal(blocks, []int{10, 31}) || !same(front, api.Head{Result: api.RegWord}) {
		t.Errorf("N3: %v, %v, %v", calls, blocks, front)
	}
	b = put2(b, 19, 1)
	if f, e := code.Back("main", b, []string{"main", "sum"}); e != api.OK || !same(f, caller()) {
		t.Errorf("N4: %+v, %d", f, e)
	}
	if f, e := code.Back("main", b, []string{"main"}); e != api.ErrNone || !same(f, api.Flow{}) {
		t.Errorf("N4: %+v, %d", f, e)
	}
}

// The code of sum, which the chapter does not write out, by its tables.
func TestCodeOfSum(t *testing.T) {
	want := bytes.Join([][]byte{
		bytesOf(0, 1, 1, 0, 3, 1, 1, 1, 0, 0, 0, 5),
		bytesOf(1, 1, 0, 1, 0, 0, 0, 0, 1, 0, 1),
		bytesOf(0, 2, 0, 0, 0, 2, 0, 3),
		bytesOf(1, 1, 0, 2, 255, 255, 255, 255, 5, 30, 0, 1, 0, 1, 0, 0, 0, 4, 0, 255, 255),
		bytesOf(0, 3, 0, 1),
		bytesOf(0, 5, 30, 0, 0, 0, 0, 0, 2, 0, 1, 0, 255, 255),
	}, nil)
	o, e := code.Encode(sum())
	if e != api.OK || !same(o, api.Object{Name: "sum", Code: want}) {
		t.Errorf("N1: %v, %d, not %v", o, e, want)
	}
	if flow.Check(sum()) != api.OK || flow.Check(caller()) != api.OK {
		t.Error("the examples are wrong")
	}
}
