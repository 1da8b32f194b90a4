package check_test

import (
	"slices"
	"strings"
	"testing"

	"argus/api"
	"argus/check"
)

// E1: what stands in a program, row by row of the table.
func TestNodesOfPrograms(t *testing.T) {
	for _, x := range []struct{ statements, want string }{
		{"", "seq"},
		{"put 7", "int #7 : int; put 0; seq 1"},
		{"b := true", "bool #1 : bool; set #1 0; seq 1"},
		{"b := false", "bool : bool; set #1 0; seq 1"},
		{"var x: null := nil", "nil : null; set #6 0; seq 1"},
		{"put inc(1)", "int #1 : int; call #1 of inc 0 : int; put 1; seq 2"},
		{"idle()", "call #1 of idle; do 0; seq 1"},
		{"inc(a)", "var : int; call #1 of inc 0 : int; do 1; seq 2"},
		{"c := least{coin}(c, c)", "var #5 : coin; var #5 : coin; call #1 of least[coin] 0 1 : coin; set #5 2; seq 3"},
		{"array[int]$addh(l, 1)", "var #4 : array[int]; int #1 : int; call addh of array[int] 0 1; do 2; seq 3"},
		{"put a + 1", "var : int; int #1 : int; call add of int 0 1 : int; put 2; seq 3"},
		{"b := not b", "var #1 : bool; call not of bool 0 : bool; set #1 1; seq 2"},
		{"b := c = c", "var #5 : coin; var #5 : coin; call equal of coin 0 1 : bool; set #1 2; seq 3"},
		{"c := c - 1", "var #5 : coin; int #1 : int; call sub of coin 0 1 : coin; set #5 2; seq 3"},
		{"put l[1]", "var #4 : array[int]; int #1 : int; call fetch of array[int] 0 1 : int; put 2; seq 3"},
		{"put r.v", "var #2 : record[v:int]; call get_v of record[v:int] 0 : int; put 1; seq 2"},
		{"l[1] := a", "var #4 : array[int]; int #1 : int; var : int; call store of array[int] 0 1 2; do 3; seq 4"},
		{"r.v := a", "var #2 : record[v:int]; var : int; call set_v of record[v:int] 0 1; do 2; seq 3"},
		{"l[1] := 2; r.v := 3; put 4", "var #4 : array[int]; int #1 : int; int #2 : int; call store of array[int] 0 1 2; do 3; var #2 : record[v:int]; int #3 : int; call set_v of record[v:int] 5 6; do 7; int #4 : int; put 9; seq 4 8 10"},
		{"var x: bag[bool] := bag[bool]$new(); x[1] := b", "call new of bag[bool] : bag[bool]; set #6 0; var #6 : bag[bool]; int #1 : int; var #1 : bool; call store of bag[bool] 2 3 4 : bool; do 5; seq 1 6"},
		{"if b then put 1 end", "var #1 : bool; int #1 : int; put 1; seq 2; if 0 3; seq 4"},
		{"while b do break end", "var #1 : bool; break; seq 1; while 0 2; seq 3"},
		{"for x: int in upto(1, a) do put x end", "int #1 : int; var : int; call #1 of upto 0 1 : int; var #6 : int; put 3; seq 4; for #6 2 5; seq 6"},
		{"return a", "var : int; return 0; seq 1"},
		{"signal bad", "signal bad; seq 0"},
		{"begin put 1 except when bad: put 2 when others: end", "int #1 : int; put 0; seq 1; int #2 : int; put 3; seq 4; when bad 5; seq; when 7; except 2 6 8; seq 9"},
		{"tagcase o tag y(z: bool): b := z tag x(w: int): put w end", "var #3 : oneof[x:int,y:bool]; var #6 : bool; set #1 1; seq 2; arm #6 y 3; var #7 : int; put 5; seq 6; arm #7 x 7; case 0 4 8; seq 9"},
	} {
		p := program(t, framed(t, x.statements))
		if got := showNodes(core(t, p, "", "p").Nodes); got != x.want {
			t.Errorf("E1: %s:\n%s, not\n%s", x.statements, got, x.want)
		}
		askValid(t, x.statements, p)
	}
}

// E1: nodes of clusters and of iterators.
func TestNodesOfClusters(t *testing.T) {
	p := programOf(t, town)
	for _, x := range []struct{ owner, name, want string }{
		{"coin", "turned", "var : coin; down 0 : bool; call not of bool 1 : bool; up 2 : coin; return 3; seq 4"},
		{"coin", "twice", "var : coin; yield 0; var : coin; call turned of coin 2 : coin; yield 3; seq 1 4"},
		{"box", "set", "var : box[?t]; down 0 : record[v:?t]; var #1 : ?t; call set_v of record[v:?t] 1 2; do 3; seq 4"},
		{"", "items", "int #1 : int; set #1 0; var #1 : int; var : array[?t]; call size of array[?t] 3 : int; call le of int 2 4 : bool; var : array[?t]; var #1 : int; call fetch of array[?t] 6 7 : ?t; yield 8; var #1 : int; int #1 : int; call add of int 10 11 : int; set #1 12; seq 9 13; while 5 14; seq 1 15"},
		{"", "least", "var : ?t; var #1 : ?t; call lt of ?t 0 1 : bool; var : ?t; return 3; seq 4; if 2 5; var #1 : ?t; return 7; seq 6 8"},
	} {
		if got := showNodes(core(t, p, x.owner, x.name).Nodes); got != x.want {
			t.Errorf("E1: %s %s:\n%s, not\n%s", x.owner, x.name, got, x.want)
		}
	}
	askValid(t, "the town", p)
}

// E1: slots are the parameters, and then the variables by ascending node.
func TestSlots(t *testing.T) {
	p := programOf(t, "proc p(b: int, a: bool) is for x: int in upto(1, 2) do var y: array[int] := array[int]$new(); y := y end; var z: null := nil; tagcase oneof[f:coin]$make_f(coin$make(a)) tag f(w: coin): var v: record[a:int] := record[a:int]$make(1); v := v end end", town)
	if got, want := core(t, p, "", "p").Slots, []string{"int", "bool", "array[int]", "int", "null", "record[a:int]", "coin"}; !slices.Equal(got, want) {
		t.Errorf("E1: %q", got)
	}
}

// E1: faces by name, representations beside them, and cores face by face.
func TestPrograms(t *testing.T) {
	l := parse(t, town)
	slices.Reverse(l)
	p := program(t, l)
	var faces, reps, cores []string
	for i, f := range p.Faces {
		faces = append(faces, f.Name)
		if p.Reps[i] != "" {
			reps = append(reps, f.Name+" "+p.Reps[i])
		}
	}
	for _, c := range p.Cores {
		cores = append(cores, c.Owner+"$"+c.Name)
	}
	if got, want := strings.Join(faces, " "), "bag box coin deep idle inc items least pair upto"; got != want {
		t.Errorf("E1: %s", got)
	}
	if got, want := strings.Join(reps, "; "), "bag array[?t]; box record[v:?t]; coin bool; pair box[record[l:?t,r:?t]]"; got != want {
		t.Errorf("E1: %s", got)
	}
	if got, want := strings.Join(cores, " "), "bag$new bag$add bag$fetch bag$store bag$each bag$find box$new box$get box$set coin$make coin$heads coin$equal coin$lt coin$sub coin$div coin$twice coin$turned coin$sides $deep $idle $inc $items $least pair$make pair$left pair$all $upto"; got != want {
		t.Errorf("E1: %s", got)
	}
	for _, m := range l {
		i := slices.IndexFunc(p.Faces, func(f api.Face) bool { return f.Name == m.Face.Name })
		if showFace(p.Faces[i]) != showFace(m.Face) {
			t.Errorf("E1: %s", showFace(p.Faces[i]))
		}
		for _, r := range m.Routines {
			owner := ""
			if m.Face.Kind == api.ModCluster {
				owner = m.Face.Name
			}
			c := core(t, p, owner, r.Name)
			if c.Owner != owner || c.Name != r.Name || showSig(c.Sig) != showSig(r.Sig) {
				t.Errorf("E1: %s", showCore(c))
			}
		}
	}
	none, f := check.Check(nil)
	if f != ok || show(none) != show(api.Program{}) {
		t.Errorf("E1: %v", f)
	}
	askValid(t, "no modules", none)
}

// E4: cores, own types and representations.
func TestParts(t *testing.T) {
	p := programOf(t, town)
	for _, x := range []struct {
		owner, name string
		e           api.Errno
	}{
		{"coin", "turned", api.OK}, {"", "inc", api.OK}, {"bag", "new", api.OK}, {"box", "new", api.OK},
		{"", "new", api.ErrNone}, {"", "coin", api.ErrNone}, {"inc", "inc", api.ErrNone}, {"coin", "new", api.ErrNone}, {"", "", api.ErrNone}, {"nowhere", "new", api.ErrNone}, {"bag[?t]", "new", api.ErrNone},
	} {
		c, e := check.CoreOf(p, x.owner, x.name)
		if e != x.e || e == api.OK && (c.Owner != x.owner || c.Name != x.name || len(c.Nodes) == 0) || e != api.OK && showCore(c) != showCore(api.Core{}) {
			t.Errorf("E4: %s %s: %s, %d", x.owner, x.name, showCore(c), e)
		}
	}
	for _, x := range []struct {
		name, own, rep string
		e              api.Errno
	}{
		{"coin", "coin", "bool", api.OK}, {"bag", "bag[?t]", "array[?t]", api.OK}, {"pair", "pair[?t]", "box[record[l:?t,r:?t]]", api.OK},
		{"inc", "", "", api.ErrNone}, {"items", "", "", api.ErrNone}, {"", "", "", api.ErrNone}, {"nowhere", "", "", api.ErrNone}, {"bag[?t]", "", "", api.ErrNone},
	} {
		own, e := check.OwnType(p, x.name)
		rep, f := check.RepOf(p, x.name)
		if own != x.own || rep != x.rep || e != x.e || f != x.e {
			t.Errorf("E4: %s: %q, %d, %q, %d", x.name, own, e, rep, f)
		}
	}
	p.Cores = p.Cores[1:]
	c, e := check.CoreOf(p, "coin", "turned")
	own, f := check.OwnType(p, "coin")
	rep, g := check.RepOf(p, "coin")
	l, h := check.Modules(p)
	if e != api.ErrProgram || f != api.ErrProgram || g != api.ErrProgram || h != api.ErrProgram || showCore(c) != showCore(api.Core{}) || own != "" || rep != "" || len(l) > 0 {
		t.Errorf("E4, E5: %d, %d, %d, %d", e, f, g, h)
	}
	if _, e := check.CoreOf(p, "coin", "none"); e != api.ErrProgram {
		t.Errorf("E4: %d", e)
	}
}
