package lower_test

import (
	"fmt"
	"strings"
	"testing"

	"argus/api"
	"argus/lower"
)

// The modules of the chapter's examples.
const (
	cell = `
cluster cell is make, get, add rep = record[n:int]
  proc make(n: int) returns cell is return up(record[n:int]$make(n)) end
  proc get(c: cell) returns int is return down(c).n end
  proc add(c: cell, n: int) is down(c).n := down(c).n + n end
end
`
	upto = `
iter upto(b: int) yields int is var i: int := 1; while i <= b do yield i; i := i + 1 end end
`
	useOfBoth = `
proc main(n: int) returns int signals (low) is
  if n < 1 then signal low end;
  var c: cell := cell$make(0);
  for x: int in upto(n) do put x; cell$add(c, x) end;
  return cell$get(c)
end
`
)

func examples(t *testing.T) api.Program { return programOf(t, cell, upto, useOfBoth) }

func TestExamplesOfName(t *testing.T) {
	for _, x := range [][3]string{{"cell", "add", "cell$add"}, {"", "main", "main"}, {"", "", ""}, {"a", "", "a$"}} {
		if s := lower.Name(x[0], x[1]); s != x[2] {
			t.Errorf("I1: Name(%q, %q): %q", x[0], x[1], s)
		}
	}
}

func TestExamplesOfAll(t *testing.T) {
	p := examples(t)
	if names := namesOf(flowsOf(t, p)); names != "cell$add cell$get cell$make main upto" {
		t.Errorf("I1: All: %s", names)
	}
	for n, want := range []string{"signal low", "done 1 put 1", "done 3 put 1 2", "done 6 put 1 2 3"} {
		if s := run(t, p, n); s != want {
			t.Errorf("P9.2: main(%d): %s, not %s", n, s, want)
		}
	}
}

func TestExamplesOfKinds(t *testing.T) {
	p := examples(t)
	for _, x := range []struct {
		name   string
		args   []uint8
		result uint8
		e      api.Errno
	}{
		{"cell$add", []uint8{api.RegRef, api.RegWord}, 0, api.OK},
		{"upto", []uint8{api.RegWord}, api.RegWord, api.OK},
		{"cell", nil, 0, api.ErrNone},
		{"cell$make", []uint8{api.RegWord}, api.RegRef, api.OK},
		{"add", nil, 0, api.ErrNone},
		{"$main", nil, 0, api.ErrNone},
		{"", nil, 0, api.ErrNone},
	} {
		args, result, e := lower.Kinds(p, x.name)
		if fmt.Sprint(args) != fmt.Sprint(x.args) || result != x.result || e != x.e {
			t.Errorf("I3: Kinds(%s): %v, %d, %d", x.name, args, result, e)
		}
	}
}

func TestExamplesOfPart(t *testing.T) {
	p := examples(t)
	for _, x := range []struct {
		t, op string
		at    int
		e     api.Errno
	}{
		{"cell", "get_n", 0, api.OK},
		{"oneof[a:int,b:null]", "is_b", 1, api.OK},
		{"record[x:int]", "make_x", 0, api.ErrPart},
	} {
		if at, e := lower.Part(p, x.t, x.op); at != x.at || e != x.e {
			t.Errorf("I3: Part(%s, %s): %d, %d", x.t, x.op, at, e)
		}
	}
}

func TestExamplesOfValue(t *testing.T) {
	p := examples(t)
	for _, x := range []struct {
		t string
		v api.Value
		n int
		e api.Errno
	}{
		{"bool", api.Value{Kind: api.ValBool, N: 1}, 1, api.OK},
		{"cell", api.Value{Kind: api.ValInt, N: 1}, 0, api.ErrArg},
	} {
		if n, e := lower.Value(p, x.t, x.v); n != x.n || e != x.e {
			t.Errorf("I4: Value(%s, %v): %d, %d", x.t, x.v, n, e)
		}
	}
}

func TestExamplesOfCalls(t *testing.T) {
	p := examples(t)
	for name, want := range map[string]string{"main": "cell$add cell$get cell$make upto", "upto": "", "cell$add": ""} {
		if l, e := lower.Calls(p, name); strings.Join(l, " ") != want || e != api.OK {
			t.Errorf("I4: Calls(%s): %q, %d", name, l, e)
		}
	}
}

func TestExamplesOfCheckFlows(t *testing.T) {
	p := examples(t)
	l := flowsOf(t, p)
	if at, e := lower.CheckFlows(p, l[1:]); at != 4 || e != api.ErrNone {
		t.Errorf("I2: without the first: %d, %d", at, e)
	}
	l[0], l[1] = l[1], l[0]
	if at, e := lower.CheckFlows(p, l); at != 1 || e != api.ErrArg {
		t.Errorf("I2: with the first two exchanged: %d, %d", at, e)
	}
}
