package check_test

import (
	"slices"
	"strings"
	"testing"

	"argus/api"
	"argus/check"
	"argus/kind"
	"argus/tree"
)

// frame is a procedure around some statements.
const frame = "proc p(a: int, b: bool, r: record[v:int], o: oneof[x:int,y:bool], l: array[int], c: coin) returns int is "

// framed is the frame around statements; it stands ahead of the town.
func framed(t *testing.T, statements string) []api.Module {
	t.Helper()
	return parse(t, frame+statements+" end", town)
}

// nested has some levels, and another type in its midst.
func nested(levels int, inner string) string {
	return strings.Repeat("array[", levels-1) + inner + strings.Repeat("]", levels-1)
}

// long is a type of two levels, with some number of bytes from 43 to 100.
func long(bytes int) string {
	left := bytes - len("record[a:int,b:int,c:int,d:int,e:int,f:int]")
	var parts []string
	for _, first := range strings.Split("abcdef", "") {
		n := max(0, min(left, 11))
		left -= n
		parts = append(parts, first+strings.Repeat("x", n)+":int")
	}
	return "record[" + strings.Join(parts, ",") + "]"
}

// row is statements, and the fault of a routine that consists of them: its error, and the node.
type row struct {
	statements string
	e          api.Errno
	node       int
}

func askRows(t *testing.T, rows []row) {
	t.Helper()
	for _, x := range rows {
		askFault(t, x.statements, framed(t, x.statements), api.Fault{Err: x.e, At: x.node})
	}
}

// askRight asks whether statements are right, each time with a second way to check.
func askRight(t *testing.T, statements ...string) {
	t.Helper()
	for _, s := range statements {
		l := framed(t, s)
		p, f := check.Check(l)
		want, _ := plainCheck(l)
		if f != ok || show(p) != show(want) {
			t.Errorf("%s: %v, %s\nnot %s", s, f, show(p), show(want))
		}
		askValid(t, s, p)
	}
}

// E1, the table: variables.
func TestVariables(t *testing.T) {
	askRows(t, []row{
		{"put x", api.ErrName, 0},
		{"x := 1", api.ErrName, 1},
		{"x := y", api.ErrName, 0},
		{"put x; var x: int := 1", api.ErrName, 0},
		{"x := 1; var x: int := 1", api.ErrName, 1},
		{"var x: int := x", api.ErrName, 0},
		{"var x: int := 1 + (2 * x)", api.ErrName, 2},
		{"if b then var x: int := 1 end; put x", api.ErrName, 5},
		{"if b then var x: int := 1 else put x end", api.ErrName, 4},
		{"while b do var x: int := 1 end; x := 2", api.ErrName, 6},
		{"begin var x: int := 1 except when bad: put x end", api.ErrName, 3},
		{"begin put 1 except when bad: var x: int := 1 when others: put x end", api.ErrName, 7},
		{"for x: int in upto(x, 2) do end", api.ErrName, 0},
		{"for x: int in upto(1, 2) do end; put x", api.ErrName, 5},
		{"for x: int in upto(1, 2) do var y: int := x end; put y", api.ErrName, 7},
		{"tagcase o tag x(y: int): end; put y", api.ErrName, 4},
		{"tagcase o tag x(y: int): tag y(z: bool): put y end", api.ErrName, 3},
		{"tagcase y tag x(y: oneof[x:int]): end", api.ErrName, 0},
		{"var x: int := 1; var y: int := 2; put x + (y * z)", api.ErrName, 6},
		{"put idle", api.ErrName, 0},
		{"put coin", api.ErrName, 0},
		{"a := true", api.ErrType, 1},
		{"l := a", api.ErrType, 1},
		{"var x: bool := a", api.ErrType, 1},
		{"var x: array[bool] := l", api.ErrType, 1},
		{"for x: int in upto(1, 2) do x := b end", api.ErrType, 4},
		{"tagcase o tag y(z: bool): z := 1 end", api.ErrType, 2},
	})
	askRight(t,
		"put a", "a := 1", "var x: int := 1; put x; x := x + 1", "var x: int := 1; if b then put x; var y: int := x; y := x else x := 2 end; x := 3",
		"var x: int := 1; while b do x := x + 1; for y: int in upto(x, a) do x := y; y := x end end",
		"tagcase o tag x(y: int): put y; y := 1; var z: int := y; put z tag y(w: bool): w := b end",
		"for x: int in upto(1, 2) do begin put x except when bad: put x when others: x := a end end",
		"var x: int := 1; begin x := 2; var y: int := x except when others: put x end; put x",
		"var v: int := 1; var inc: int := inc(v); put inc", "var t: int := 1; var coin: int := t; put coin")
}

// E1, the variables of a routine: names, how many there are, and their types.
func TestDeclarations(t *testing.T) {
	askRows(t, []row{
		{"var x: int := 1; var x: int := 2", api.ErrTwice, 3},
		{"var a: int := 1", api.ErrTwice, 1},
		{"for b: int in upto(1, 2) do end", api.ErrTwice, 4},
		{"for x: int in upto(1, 2) do var x: int := 1 end", api.ErrTwice, 6},
		{"tagcase o tag x(x: int): tag y(x: bool): end", api.ErrTwice, 4},
		{"if b then var x: int := 1 else var x: bool := b end", api.ErrTwice, 5},
		{"tagcase o tag x(c: int): end", api.ErrTwice, 2},
		{"var x: nowhere := 1", api.ErrNone, 1},
		{"var x: box := 1", api.ErrNone, 1},
		{"var x: coin[int] := 1", api.ErrNone, 1},
		{"var x: inc := 1", api.ErrNone, 1},
		{"var x: ?t := 1", api.ErrOpen, 1},
		{"var x: box[?t] := 1", api.ErrOpen, 1},
		{"var x: bag[box[int]] := 1", api.ErrFit, 1},
		{"var x: record[b:int,a:int] := 1", api.ErrForm, 1},
		{"var x: " + nested(7, "int") + " := 1", api.ErrLimit, 1},
		{"for x: array[nowhere] in upto(1, 2) do end", api.ErrNone, 4},
		{"tagcase o tag x(z: oneof[a:bag[bag[int]]]): end", api.ErrFit, 2},
		// What is declared is asked ahead of all else, in order.
		{"put x; x := true; var x: nowhere := y", api.ErrNone, 5},
		{"var x: nowhere := 1; var a: int := 2", api.ErrNone, 1},
		{"var a: nowhere := 1; var x: ?t := 2", api.ErrTwice, 1},
		{"for x: nowhere in upto(1, 2) do var y: ?t := 1 end", api.ErrOpen, 4},
		{"tagcase o tag x(w: ?t): var z: nowhere := 1 end", api.ErrNone, 2},
	})
	askRight(t, "var x: "+nested(6, "int")+" := "+nested(6, "int")+"$new()", "var x: bag[coin] := bag[coin]$new(); var y: pair[bag[coin]] := pair[bag[coin]]$make(x, x)")
}

// E1: there are at most 60 variables, parameters among them.
func TestManyVariables(t *testing.T) {
	many := func(n int) string {
		var l []string
		for i := range n {
			name := "x" + string(rune('a'+i/26)) + string(rune('a'+i%26))
			l = append(l, "var "+name+": int := 1")
		}
		return strings.Join(l, "; ")
	}
	askRight(t, many(53), many(54))
	askRows(t, []row{
		{many(55), api.ErrLimit, 109},
		{many(54) + "; var a: int := 1", api.ErrTwice, 109},
		{many(54) + "; var x: nowhere := 1", api.ErrLimit, 109},
		{many(54) + "; for x: int in upto(1, 2) do end", api.ErrLimit, 112},
		{many(53) + "; tagcase o tag x(y: int): tag y(z: bool): end", api.ErrLimit, 110},
		{"put x; " + many(55), api.ErrLimit, 111},
	})
	askFault(t, "61 without parameters", parse(t, "proc p() is "+many(61)+" end"), api.Fault{Err: api.ErrLimit, At: 121})
	if p := programOf(t, "proc p() is "+many(60)+" end"); len(p.Cores[0].Slots) != 60 {
		t.Errorf("E1: %d slots", len(p.Cores[0].Slots))
	}
}

// E1, the table: calls of modules.
func TestCallsOfModules(t *testing.T) {
	askRows(t, []row{
		{"none()", api.ErrNone, 0},
		{"none{int}(1)", api.ErrNone, 1},
		{"put box(1)", api.ErrNone, 1},
		{"put box{int}(1)", api.ErrNone, 1},
		{"put least(1, 2)", api.ErrNone, 2},
		{"put inc{int}(1)", api.ErrNone, 1},
		{"put least{nowhere}(1, 2)", api.ErrNone, 2},
		{"put least{?t}(1, 2)", api.ErrOpen, 2},
		{"put least{record[b:int,a:int]}(1, 2)", api.ErrForm, 2},
		{"put least{" + nested(7, "int") + "}(1, 2)", api.ErrLimit, 2},
		{"put least{bag[box[int]]}(1, 2)", api.ErrFit, 2},
		{"put least{bool}(1, 2)", api.ErrFit, 2},
		// The type is asked ahead of the module.
		{"put none{nowhere}(1)", api.ErrNone, 1},
		{"put none{?t}(1)", api.ErrOpen, 1},
		{"put none{" + nested(6, "int") + "}(1)", api.ErrLimit, 1},
		{"put none{" + long(95) + "}(1)", api.ErrLimit, 1},
		{"put none{" + long(94) + "}(1)", api.ErrNone, 1},
		{"put least{" + nested(5, "int") + "}(1, 2)", api.ErrFit, 2},
		// The text of the instance is right, a type of its signature is not.
		{"put deep{" + nested(5, "int") + "}(1)", api.ErrLimit, 1},
		{"put upto(1, 2)", api.ErrIter, 2},
		{"upto(1, 2)", api.ErrIter, 2},
		{"put 1 + upto(1, 2)", api.ErrIter, 3},
		{"for x: int in inc(1) do end", api.ErrIter, 1},
		{"for x: int in idle() do end", api.ErrIter, 0},
		{"put inc()", api.ErrArgs, 0},
		{"put inc(b)", api.ErrArgs, 1},
		{"put inc(1, 2)", api.ErrArgs, 2},
		{"idle(1)", api.ErrArgs, 1},
		{"for x: int in upto(1) do end", api.ErrArgs, 1},
		{"for x: int in upto(1, b) do end", api.ErrArgs, 2},
		{"put least{int}(1, b)", api.ErrArgs, 2},
		{"put deep{int}(l)", api.ErrArgs, 1},
		{"put idle()", api.ErrValue, 0},
		{"var x: int := idle()", api.ErrValue, 0},
		{"put 1 + idle()", api.ErrValue, 1},
		{"put inc(idle())", api.ErrValue, 0},
		{"for x: int in upto(idle(), 1) do end", api.ErrValue, 0},
		{"idle(idle())", api.ErrValue, 0},
		// The order of the errors of a call.
		{"put upto(b)", api.ErrIter, 1},
		{"for x: bool in idle(1) do end", api.ErrIter, 1},
		{"put idle(1)", api.ErrArgs, 1},
	})
	askRight(t, "idle()", "inc(1)", "put inc(inc(1))", "put least{int}(1, a)", "c := least{coin}(c, c)", "for x: array[int] in items{array[int]}(array[array[int]]$new()) do l := x end", "put deep{"+nested(4, "int")+"}("+nested(6, "int")+"$new())")
}

// E1, the table: calls of operations.
func TestCallsOfOperations(t *testing.T) {
	askRows(t, []row{
		{"nowhere$f()", api.ErrNone, 0},
		{"box$new(1)", api.ErrNone, 1},
		{"coin[int]$make(b)", api.ErrNone, 1},
		{"inc$inc(1)", api.ErrNone, 1},
		{"?t$equal(1, 2)", api.ErrOpen, 2},
		{"bag[?t]$new()", api.ErrOpen, 0},
		{"record[b:int,a:int]$make(1, 2)", api.ErrForm, 2},
		{nested(7, "int") + "$new()", api.ErrLimit, 0},
		{"bag[bag[int]]$new()", api.ErrFit, 0},
		{"int$none(1)", api.ErrOp, 1},
		{"coin$none(1)", api.ErrOp, 1},
		{"r := record[v:int]$get(r)", api.ErrOp, 1},
		{"array[int]$get_v(l)", api.ErrOp, 1},
		{"nowhere$none(1)", api.ErrNone, 1},
		{"pair[" + nested(5, "int") + "]$all(1)", api.ErrLimit, 1},
		{"pair[" + nested(6, "int") + "]$all(1)", api.ErrLimit, 1},
		{"pair[" + long(94) + "]$all(1)", api.ErrLimit, 1},
		{"pair[" + long(86) + "]$all(1)", api.ErrArgs, 1},
		{"put int$add(1)", api.ErrArgs, 1},
		{"put int$add(1, b)", api.ErrArgs, 2},
		{"int$add(b, 1)", api.ErrArgs, 2},
		{"put int$add(1, 2, 3)", api.ErrArgs, 3},
		{"c := coin$make(1)", api.ErrArgs, 1},
		{"c := coin$make(c)", api.ErrArgs, 1},
		{"array[bool]$addh(l, b)", api.ErrArgs, 2},
		{"put array[int]$addh(l, 1)", api.ErrValue, 2},
		{"put record[v:int]$set_v(r, 1)", api.ErrValue, 2},
		{"put coin$twice(c)", api.ErrIter, 1},
		{"coin$twice(c)", api.ErrIter, 1},
		{"for x: int in int$add(1, 2) do end", api.ErrIter, 2},
		{"for x: int in array[int]$addh(l, 1) do end", api.ErrIter, 2},
		{"put coin$twice(1)", api.ErrIter, 1},
		{"put array[int]$addh(l, b)", api.ErrArgs, 2},
		{"for x: coin in coin$twice(1) do end", api.ErrArgs, 1},
	})
	askRight(t, "int$add(1, 2)", "put int$mod(a, 2)", "array[int]$addh(l, 1)", "l := array[int]$new()", "put array[int]$remh(l)", "b := bool$not(b)", "o := oneof[x:int,y:bool]$make_y(b)", "r := record[v:int]$make(a)",
		"for x: coin in coin$twice(coin$make(b)) do c := x end", "var x: bag[int] := bag[int]$new(); bag[int]$add(x, 1); for y: int in bag[int]$each(x) do put y end; bag[int]$store(x, 1, 2)")
}

// E1, the table: what calls operations without saying so.
func TestSugar(t *testing.T) {
	askRows(t, []row{
		{"put b + 1", api.ErrOp, 2},
		{"put 1 + b", api.ErrArgs, 2},
		{"put not 1", api.ErrOp, 1},
		{"b := nil < nil", api.ErrOp, 2},
		{"b := nil = 1", api.ErrArgs, 2},
		{"b := a and b", api.ErrOp, 2},
		{"b := c and c", api.ErrOp, 2},
		{"b := c <= c", api.ErrOp, 2},
		{"b := c < b", api.ErrArgs, 2},
		{"c := c / c", api.ErrValue, 2},
		{"c := c mod c", api.ErrOp, 2},
		{"c := c - c", api.ErrArgs, 2},
		{"put a[1]", api.ErrOp, 2},
		{"put l[b]", api.ErrArgs, 2},
		{"put r[1]", api.ErrOp, 2},
		{"put a.v", api.ErrOp, 1},
		{"put r.w", api.ErrOp, 1},
		{"put o.x", api.ErrOp, 1},
		{"put c.heads", api.ErrOp, 1},
		{"a[1] := 2", api.ErrOp, 3},
		{"l[b] := 1", api.ErrArgs, 3},
		{"l[1] := b", api.ErrArgs, 3},
		{"r.w := 1", api.ErrOp, 2},
		{"a.v := 1", api.ErrOp, 2},
		{"r.v := b", api.ErrArgs, 2},
		{"l[1] := idle()", api.ErrValue, 2},
	})
	askRight(t, "put ((a + 1) - (a * 2)) / (a mod 2)", "b := (a < 1) and ((a <= 2) or ((a = 3) and (not b)))", "b := nil = nil", "b := l = l", "b := r = r", "b := o = o", "b := c < c", "c := c - 1", "b := b = b",
		"put l[l[1]]", "put r.v", "l[1] := l[2]", "r.v := r.v + 1", "var x: bag[bool] := bag[bool]$new(); b := x[1]; x[1] := b")
}

// E1, the table: statements.
func TestStatements(t *testing.T) {
	askRows(t, []row{
		{"if a then end", api.ErrType, 2},
		{"if a then else end", api.ErrType, 3},
		{"if b then elseif a then end", api.ErrType, 4},
		{"if c then put b end", api.ErrType, 2},
		{"while a do end", api.ErrType, 2},
		{"while a do break; put b end", api.ErrType, 3},
		{"for x: bool in upto(1, 2) do end", api.ErrType, 4},
		{"for x: bool in upto(1, 2) do put x end", api.ErrType, 4},
		{"return", api.ErrReturn, 0},
		{"return b", api.ErrType, 1},
		{"yield 1", api.ErrReturn, 1},
		{"yield b", api.ErrReturn, 1},
		{"break", api.ErrBreak, 0},
		{"if b then break end", api.ErrBreak, 1},
		{"while b do end; break", api.ErrBreak, 3},
		{"for x: int in upto(1, 2) do end; break", api.ErrBreak, 5},
		{"begin break except when others: end", api.ErrBreak, 0},
		{"tagcase a tag x(z: int): end", api.ErrType, 3},
		{"tagcase r tag v(z: int): end", api.ErrType, 3},
		{"tagcase c tag x(z: int): end", api.ErrType, 3},
		{"tagcase o tag z(z: int): end", api.ErrName, 3},
		{"tagcase o tag x(z: int): tag x(w: int): end", api.ErrTwice, 5},
		{"tagcase o tag x(z: bool): end", api.ErrType, 3},
		{"tagcase o tag y(z: bool): tag x(w: bool): end", api.ErrType, 5},
		// Arms in order, of each all errors.
		{"tagcase o tag x(z: bool): tag z(w: int): end", api.ErrType, 5},
		{"tagcase o tag z(z: int): tag x(w: bool): end", api.ErrName, 5},
		{"tagcase o tag x(z: int): tag x(w: bool): end", api.ErrTwice, 5},
		{"put b", api.ErrType, 1},
		{"put c", api.ErrType, 1},
		{"put nil", api.ErrType, 1},
		{"b := up(1)", api.ErrUp, 1},
		{"b := down(c)", api.ErrUp, 1},
		{"up(1)[1] := 2", api.ErrUp, 1},
	})
	askRight(t, "return 1", "if b then return a end", "while b do break; if b then break end; begin break except when bad: break when others: break end; tagcase o tag x(z: int): break end end",
		"for x: int in upto(1, 2) do break; while b do end; break end", "signal anything", "begin signal bad except when bad: put 1 when bad: put 2 when others: signal worse end", "tagcase o tag y(z: bool): end", "if b then end", "put 1", "")
}

// E1: returns and yields of routines of other kinds.
func TestReturns(t *testing.T) {
	for src, want := range map[string]api.Fault{
		"proc p() is return end":                              ok,
		"proc p() is return 1 end":                            {Err: api.ErrReturn, At: 1},
		"proc p() is return q() end proc q() is end":          {Err: api.ErrValue},
		"proc p() is yield 1 end":                             {Err: api.ErrReturn, At: 1},
		"proc p() returns int is return end":                  {Err: api.ErrReturn},
		"proc p() returns int is return nil end":              {Err: api.ErrType, At: 1},
		"proc p() returns int is end":                         ok,
		"iter p() yields int is return end":                   ok,
		"iter p() yields int is return 1 end":                 {Err: api.ErrReturn, At: 1},
		"iter p() yields int is yield 1; yield 2; return end": ok,
		"iter p() yields int is yield true end":               {Err: api.ErrType, At: 1},
		"iter p() yields bool is yield true; yield 1 end":     {Err: api.ErrType, At: 3},
		"iter p() yields int is for x: int in p() do end end": ok,
		"iter p() yields int is end":                          ok,
		"proc p[t](x: ?t) returns ?t is return x end":         ok,
		"proc p[t](x: ?t) returns int is return x end":        {Err: api.ErrType, At: 1},
		"proc p() signals (a, b) is signal c end":             ok,
	} {
		l := parse(t, src)
		if want == ok {
			askValid(t, src, program(t, l))
			continue
		}
		askFault(t, src, l, want)
	}
}

// E1: clusters, from the inside: up and down, own types and hidden routines.
func TestInsideClusters(t *testing.T) {
	around := func(routines string) string {
		return "cluster k is f rep = record[v:int] proc f(x: k) returns k is return x end proc g(x: k) returns k is " + routines + " end iter h(x: k) yields k is yield x end end"
	}
	for _, x := range []row{
		{"return up(down(x))", 0, 0},
		{"return k$h(x)", api.ErrIter, 1},
		{"for y: k in k$h(x) do end", 0, 0},
		{"for y: k in k$g(x) do end", api.ErrIter, 1},
		{"return k$g(x)", 0, 0},
		{"return k$g(1)", api.ErrArgs, 1},
		{"return k$i(x)", api.ErrOp, 1},
		{"return up(x)", api.ErrType, 1},
		{"return up(1)", api.ErrType, 1},
		{"return down(x)", api.ErrType, 2},
		{"return up(down(down(x)))", api.ErrType, 2},
		{"return up(record[v:int]$make(1))", 0, 0},
		{"return up(record[w:int]$make(1))", api.ErrType, 2},
		{"put down(x).v", 0, 0},
		{"put x.v", api.ErrOp, 1},
		{"down(x).v := 1", 0, 0},
		{"return g(x)", api.ErrNone, 1},
		{"return k(x)", api.ErrNone, 1},
	} {
		l := parse(t, around(x.statements))
		if x.e == api.OK {
			askValid(t, x.statements, program(t, l))
			continue
		}
		askFault(t, x.statements, l, api.Fault{Err: x.e, At: 400 + x.node})
	}
}

// E1: inside a cluster with a parameter hidden routines are those of the own type alone; its operations are those of any type.
func TestInsideGenericClusters(t *testing.T) {
	around := func(statements string) string {
		return "cluster k[t] is f where t has equal: proc(?t, ?t) returns bool rep = ?t proc f(x: k[?t], y: k[int]) returns k[?t] is " + statements + " end proc g(x: k[?t]) returns k[?t] is return x end end"
	}
	for _, x := range []row{
		{"return k[?t]$g(x)", 0, 0},
		{"y := k[int]$g(y)", api.ErrOp, 1},
		{"y := k[int]$f(y, y)", 0, 0},
		{"put down(y)", api.ErrType, 1},
		{"return up(down(x))", 0, 0},
		{"y := up(1)", api.ErrType, 1},
		{"k$g(x)", api.ErrNone, 1},
		{"var z: k[k[?t]] := x", api.ErrFit, 1},
		{"if down(x) = down(x) then end", 0, 0},
		{"if x = x then end", api.ErrOp, 2},
		{"if down(x) < down(x) then end", api.ErrOp, 4},
		{"if down(x) = 1 then end", api.ErrArgs, 3},
	} {
		l := parse(t, around(x.statements))
		if x.e == api.OK {
			askValid(t, x.statements, program(t, l))
			continue
		}
		askFault(t, x.statements, l, api.Fault{Err: x.e, At: x.node})
	}
}

// E1: types of what the face does not have, and parameters with one name.
func TestSignatures(t *testing.T) {
	around := func(head string) string {
		return "cluster k is f rep = int proc f() is end proc g() is end proc h" + head + " is var z: nowhere := 1 end end"
	}
	const at = 800
	for _, x := range []struct {
		head string
		want api.Fault
	}{
		{"()", api.Fault{Err: api.ErrNone, At: at + 1}},
		{"(x: nowhere)", api.Fault{Err: api.ErrNone, At: at}},
		{"(x: int, y: ?t, z: nowhere)", api.Fault{Err: api.ErrOpen, At: at}},
		{"(x: record[b:int,a:int])", api.Fault{Err: api.ErrForm, At: at}},
		{"() returns k[int]", api.Fault{Err: api.ErrNone, At: at}},
		{"() returns " + nested(7, "k"), api.Fault{Err: api.ErrLimit, At: at}},
		{"(x: ?t) returns nowhere", api.Fault{Err: api.ErrOpen, At: at}},
		{"(x: int, x: nowhere)", api.Fault{Err: api.ErrNone, At: at}},
		{"(x: int, x: int)", api.Fault{Err: api.ErrTwice, At: at}},
		{"(z: int, x: int)", api.Fault{Err: api.ErrTwice, At: at + 1}},
	} {
		askFault(t, x.head, parse(t, around(x.head)), x.want)
	}
	askFault(t, "two parameters", parse(t, "proc q() is end proc p(a: int, b: bool, a: nowhere) is end"), api.Fault{Err: api.ErrNone, At: 8000})
	askFault(t, "two parameters", parse(t, "proc q() is end proc p(a: int, b: bool, a: int) is put x end"), api.Fault{Err: api.ErrTwice, At: 8000})
	// A routine that comes later has a bad signature: what calls it is wrong where it uses it.
	for src, want := range map[string]api.Fault{
		"proc f() is k$g()[1] := 2 end proc g() returns nowhere is end":                   {Err: api.ErrNone, At: 3},
		"proc f() is put k$g()[1] end proc g() returns array[?t] is end":                  {Err: api.ErrType, At: 3},
		"proc f() returns int is return k$g().a end proc g() returns record[a:?t] is end": {Err: api.ErrType, At: 2},
		"proc f() is if k$g() = k$g() then end end proc g() returns array[?t] is end":     {Err: api.ErrOpen, At: 400},
		"proc f() is k$g() end proc g() returns array[?t] is end":                         {Err: api.ErrOpen, At: 400},
		"proc f() is k$g(1) end proc g(x: nowhere) is end":                                {Err: api.ErrArgs, At: 1},
	} {
		askFault(t, src, parse(t, "cluster k is f rep = int "+src+" end"), want)
	}
}

// E1: the faults of whole modules come first, and in their order.
func TestFaultsOfModules(t *testing.T) {
	right := parse(t, "proc a() is end proc b() is end")
	wrong := func(i int, change func(m *api.Module), more ...api.Module) []api.Module {
		l := slices.Concat(parse(t, "proc a() is end proc b() is put x end cluster c is f rep = int proc f() is put true end end"), more)
		change(&l[i])
		return l
	}
	for _, x := range []struct {
		what string
		l    []api.Module
		want api.Fault
	}{
		{"no name", wrong(1, func(m *api.Module) { m.Face.Name = "" }), api.Fault{Err: api.ErrTree, At: 8000}},
		{"no kind", wrong(0, func(m *api.Module) { m.Face.Kind = 0 }), api.Fault{Err: api.ErrTree}},
		{"no nodes", wrong(2, func(m *api.Module) { m.Routines[0].Nodes = nil }), api.Fault{Err: api.ErrTree, At: 16000}},
		{"twice", wrong(1, func(m *api.Module) {}, right[0]), api.Fault{Err: api.ErrTwice, At: 24000}},
		{"twice, and no form behind", wrong(1, func(m *api.Module) {}, right[0], api.Module{}), api.Fault{Err: api.ErrTree, At: 32000}},
		{"no type", wrong(2, func(m *api.Module) { m.Rep = "x[" }), api.Fault{Err: api.ErrTree, At: 16000}},
		{"no representation", wrong(2, func(m *api.Module) { m.Rep = "nowhere" }), api.Fault{Err: api.ErrNone, At: 16000}},
		{"open", wrong(2, func(m *api.Module) { m.Rep = "array[?t]" }), api.Fault{Err: api.ErrOpen, At: 16000}},
		{"form", wrong(2, func(m *api.Module) { m.Rep = "record[b:int,a:int]" }), api.Fault{Err: api.ErrForm, At: 16000}},
		{"itself", wrong(2, func(m *api.Module) { m.Rep = "c" }), api.Fault{Err: api.ErrRep, At: 16000}},
		{"not itself", wrong(2, func(m *api.Module) { m.Rep = "array[c]" }), api.Fault{Err: api.ErrName, At: 8000}},
		{"a procedure", wrong(2, func(m *api.Module) { m.Rep = "a" }), api.Fault{Err: api.ErrNone, At: 16000}},
	} {
		askFault(t, x.what, x.l, x.want)
	}
}

// E1: faces are asked by name, and the fault is that of the module.
func TestFaultsOfFaces(t *testing.T) {
	for _, x := range []struct {
		src  string
		want api.Fault
	}{
		{"proc z() is end proc b(x: nowhere) is end proc a() is end", api.Fault{Err: api.ErrNone, At: 8000}},
		{"proc z(x: nowhere) is end proc b(x: array[a]) is end proc a() is end", api.Fault{Err: api.ErrNone, At: 8000}},
		{"proc z(x: ?t) is end proc b(x: nowhere) is end", api.Fault{Err: api.ErrFace}},
		{"proc b(x: record[b:int,a:int]) is end", api.Fault{Err: api.ErrFace}},
		{"proc z() where t has eq: proc() is end proc b() is end", api.Fault{Err: api.ErrFace}},
		{"proc z() is end proc b[t](x: " + nested(7, "?t") + ") is end", api.Fault{Err: api.ErrFace, At: 8000}},
		{"proc z() is end cluster s[t] is f where t has eq: proc(?t) rep = int proc f(x: s[?t]) is end end proc b(x: s[int]) is end", api.Fault{Err: api.ErrFit, At: 16000}},
		{"proc z() is put x end cluster s is f rep = nowhere proc f(x: q) is end end", api.Fault{Err: api.ErrNone, At: 8000}},
		{"cluster s is f rep = nowhere proc f() is end end cluster r is f rep = int proc f(x: ?t) is end end", api.Fault{Err: api.ErrFace, At: 8000}},
		{"cluster s is f rep = nowhere proc f() is end end cluster r is f rep = ?t proc f() is end end", api.Fault{Err: api.ErrNone}},
		{"cluster s is f rep = r proc f() is end end cluster r is f rep = ?t proc f() is end end", api.Fault{Err: api.ErrOpen, At: 8000}},
	} {
		askFault(t, x.src, parse(t, x.src), x.want)
	}
}

// E1: representations that lead back.
func TestChains(t *testing.T) {
	cluster := func(name, rep string) string {
		return "cluster " + name + " is f rep = " + rep + " proc f() is put x end end "
	}
	for _, x := range []struct {
		src  string
		want api.Fault
	}{
		{cluster("a", "a"), api.Fault{Err: api.ErrRep}},
		{cluster("a", "b[int]") + cluster("b[t]", "a"), api.Fault{Err: api.ErrRep}},
		{cluster("a", "b") + cluster("b", "int") + cluster("c", "d") + cluster("d", "c"), api.Fault{Err: api.ErrRep, At: 16000}},
		// A chain may lead into a circle that it does not begin in.
		{cluster("a", "b") + cluster("b", "c") + cluster("c", "b"), api.Fault{Err: api.ErrRep}},
		{cluster("z", "int") + cluster("y", "z") + cluster("x", "w") + cluster("w", "v") + cluster("v", "v"), api.Fault{Err: api.ErrRep, At: 16000}},
		{cluster("a", "a") + cluster("b", "nowhere"), api.Fault{Err: api.ErrNone, At: 8000}},
		{cluster("a[t]", "b[a[?t]]") + cluster("b[t]", "c[b[?t]]") + cluster("c[t]", "array[c[?t]]"), api.Fault{Err: api.ErrName}},
		{cluster("a", "array[a]"), api.Fault{Err: api.ErrName}},
		{cluster("a", "record[l:a]") + cluster("b", "a"), api.Fault{Err: api.ErrName}},
		{cluster("a[t]", "?t"), api.Fault{Err: api.ErrName}},
	} {
		askFault(t, x.src, parse(t, x.src), x.want)
	}
}

// E1: at most 20 modules; what else is wrong with them is not asked.
func TestManyModules(t *testing.T) {
	var l []api.Module
	for i := range 20 {
		name := "m" + string(rune('a'+19-i))
		l = append(l, parse(t, "proc "+name+"() is "+name+"() end")...)
	}
	askValid(t, "20 modules", program(t, l))
	l[19].Routines[0].Nodes[0].Name = "none"
	askFault(t, "the last one", l, api.Fault{Err: api.ErrNone, At: 19 * 8000})
	for _, more := range []api.Module{l[0], {}, parse(t, "proc other() is end")[0]} {
		askFault(t, "21 modules", append(slices.Clone(l), more), api.Fault{Err: api.ErrLimit})
	}
	askFault(t, "many", make([]api.Module, 1000), api.Fault{Err: api.ErrLimit})
}

// E1: modules are asked in the order of the list, and routines in theirs.
func TestOrderOfModules(t *testing.T) {
	sources := []string{
		"proc z() is put 1; x := 1 end",
		"cluster k is f rep = int proc f() is end proc g() is break end proc h(x: nowhere) is end end",
		"proc a() is put true end",
	}
	askFault(t, "in order", parse(t, sources...), api.Fault{Err: api.ErrName, At: 3})
	slices.Reverse(sources)
	askFault(t, "in the other order", parse(t, sources...), api.Fault{Err: api.ErrType, At: 1})
	sources[0], sources[1] = sources[1], sources[0]
	askFault(t, "the cluster first", parse(t, sources...), api.Fault{Err: api.ErrBreak, At: 400})
}

// The places of the limits: the last routine and the last node that there can be.
func TestLastPlaces(t *testing.T) {
	var routines []string
	var names []string
	for i := range 20 {
		name := "r" + string(rune('a'+i))
		names = append(names, name)
		routines = append(routines, "proc "+name+"() is end")
	}
	body := strings.Repeat("put 1; ", 198) + "put b" // 2 nodes each; the root is the 399th
	routines[19] = "proc rt() is var b: bool := b; " + strings.Repeat("put 1; ", 190) + "put 2 end"
	src := "cluster k is " + strings.Join(names, ", ") + " rep = int " + strings.Join(routines, " ") + " end"
	askFault(t, "the last routine", parse(t, src), api.Fault{Err: api.ErrName, At: 19 * 400})
	l := parse(t, frame+body+" end", town)
	askFault(t, "a late node", l, api.Fault{Err: api.ErrType, At: 397})
	if _, e := kind.Kind(long(100)); e != api.OK || len(long(100)) != 100 {
		t.Error("the tests are wrong")
	}
	if e := tree.Check(l[0]); e != api.OK {
		t.Errorf("tree.Check: %d", e)
	}
}

func TestNumbersOfErrors(t *testing.T) {
	got := []api.Errno{api.ErrName, api.ErrType, api.ErrRep, api.ErrIter, api.ErrArgs, api.ErrValue, api.ErrUp, api.ErrReturn, api.ErrBreak, api.ErrProgram}
	for i, e := range got {
		if e != api.Errno(50+i) {
			t.Errorf("%d", e)
		}
	}
	if _, f := check.Check(parse(t, "proc p() is break end")); f.Err != 58 {
		t.Errorf("%v", f)
	}
}
