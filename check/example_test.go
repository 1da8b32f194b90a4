package check_test

import (
	"slices"
	"testing"

	"argus/api"
	"argus/check"
	"argus/tree"
)

// The modules of the chapter's examples.
const (
	inc     = "proc inc(a: int) returns int is return a + 1 end\n"
	box     = "cluster box[t] is new, get rep = record[v:?t] proc new(x: ?t) returns box[?t] is return up(record[v:?t]$make(x)) end proc get(b: box[?t]) returns ?t is return down(b).v end end\n"
	mainBox = "proc main() returns int is var b: box[int] := box[int]$new(inc(2)); return box[int]$get(b) end\n"
)

func TestExampleProgram(t *testing.T) {
	for _, sources := range [][]string{{inc, box, mainBox}, {mainBox, box, inc}, {box, mainBox, inc}, {inc, mainBox, box}} {
		p := programOf(t, sources...)
		var faces, cores []string
		for _, f := range p.Faces {
			faces = append(faces, f.Name)
		}
		for _, c := range p.Cores {
			cores = append(cores, c.Owner+" "+c.Name)
		}
		if !slices.Equal(faces, []string{"box", "inc", "main"}) || !slices.Equal(cores, []string{"box new", "box get", " inc", " main"}) {
			t.Errorf("E1: %q, %q", faces, cores)
		}
		if !slices.Equal(p.Reps, []string{"record[v:?t]", "", ""}) {
			t.Errorf("E1: %q", p.Reps)
		}
		for _, x := range []struct{ owner, name, want string }{
			{"", "inc", "var : int; int #1 : int; call add of int 0 1 : int; return 2; seq 3"},
			{"box", "get", "var : box[?t]; down 0 : record[v:?t]; call get_v of record[v:?t] 1 : ?t; return 2; seq 3"},
			{"box", "new", "var : ?t; call make of record[v:?t] 0 : record[v:?t]; up 1 : box[?t]; return 2; seq 3"},
			{"", "main", "int #2 : int; call #1 of inc 0 : int; call new of box[int] 1 : box[int]; set 2; var : box[int]; call get of box[int] 4 : int; return 5; seq 3 6"},
		} {
			if got := showNodes(core(t, p, x.owner, x.name).Nodes); got != x.want {
				t.Errorf("E1: %s %s: %s, not %s", x.owner, x.name, got, x.want)
			}
		}
		askValid(t, "the example", p)
		for name, want := range map[string][2]string{"box": {"box[?t]", "record[v:?t]"}} {
			own, e := check.OwnType(p, name)
			rep, f := check.RepOf(p, name)
			if own != want[0] || rep != want[1] || e != api.OK || f != api.OK {
				t.Errorf("E4: %q, %d, %q, %d", own, e, rep, f)
			}
		}
	}
}

func TestExampleFaults(t *testing.T) {
	const (
		right = "proc main() returns int is var b: box[int] := box[int]$new(inc("
		end   = ")); return box[int]$get(b) end"
	)
	for _, x := range []struct {
		src  string
		want api.Fault
	}{
		{inc + box + right + "true" + end, api.Fault{Err: api.ErrArgs, At: 16001}},
		{inc + box + "proc main() returns int is var b: box[int] := box[int]$new(inc(2)); return down(b) end", api.Fault{Err: api.ErrUp, At: 16005}},
		{"proc p() is x := 1 end", api.Fault{Err: api.ErrName, At: 1}},
		{"proc p() is break end", api.Fault{Err: api.ErrBreak}},
		{"proc p() is return 1 end", api.Fault{Err: api.ErrReturn, At: 1}},
		{"cluster a is f rep = b proc f() is end end cluster b is f rep = a proc f() is end end", api.Fault{Err: api.ErrRep}},
	} {
		askFault(t, x.src, parse(t, x.src), x.want)
	}
}

func TestExampleModules(t *testing.T) {
	l, e := check.Modules(programOf(t, inc))
	s, f := tree.Print(l)
	if want := "proc inc(v0: int) returns int is\n  return int$add(v0, 1)\nend\n"; s != want || e != api.OK || f != api.OK {
		t.Errorf("E5: %q, %d, %d", s, e, f)
	}
}

// E3: places and what they are of.
func TestPlaces(t *testing.T) {
	for _, x := range [][4]int{{2, 0, 1, 16001}, {0, 0, 0, 0}, {1, 1, 3, 8403}, {19, 19, 399, 159999}, {0, 0, 399, 399}, {0, 1, 0, 400}, {0, 19, 399, 7999}, {1, 0, 0, 8000}} {
		if at := check.Place(x[0], x[1], x[2]); at != x[3] {
			t.Errorf("E3: Place(%d): %d", x, at)
		}
		if m, r, n := check.Spot(x[3]); m != x[0] || r != x[1] || n != x[2] {
			t.Errorf("E3: Spot(%d): %d, %d, %d", x[3], m, r, n)
		}
	}
	const most = int(^uint(0) >> 1)
	for _, x := range [][3]int{{20, 0, 0}, {0, 20, 0}, {0, 0, 400}, {-1, 0, 0}, {0, -1, 0}, {0, 0, -1}, {1, -1, 0}, {1, 1, -1}, {19, 20, 0}, {most, 0, 0}, {0, most, 0}, {0, 0, most}, {-most - 1, 0, 0}, {most, most, most}, {1 << 58, 0, 0}, {1 << 61, 1, 1}, {1 << 60, 3, 5}, {0, 1 << 60, 1}} {
		if at := check.Place(x[0], x[1], x[2]); at != 0 {
			t.Errorf("E3: Place(%d): %d", x, at)
		}
	}
	for _, at := range []int{160000, -1, most, -most - 1, -400, -8000} {
		if m, r, n := check.Spot(at); m != 0 || r != 0 || n != 0 {
			t.Errorf("E3: Spot(%d): %d, %d, %d", at, m, r, n)
		}
	}
	for at := range 160000 {
		if m, r, n := check.Spot(at); check.Place(m, r, n) != at || m > 19 || r > 19 || n > 399 {
			t.Fatalf("E3: Spot(%d): %d, %d, %d", at, m, r, n)
		}
	}
}
