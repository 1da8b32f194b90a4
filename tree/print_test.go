package tree_test

import (
	"math/rand/v2"
	"slices"
	"strings"
	"testing"

	"argus/api"
	"argus/tree"
)

// canonical has all that modules can have, as the chapter lays it out.
const canonical = `proc none() is
end

proc sort[t](a: array[?t], b: int) returns array[?t] signals (bad, other) where t has equal: proc(?t, ?t) returns bool, lt: proc(), map: iter(int) yields record[a:?t,b:null] signals (a, b) is
  var i: int := 0;
  i := i + 1;
  a[i] := a[i + 1];
  a[1][2].f[3] := nil;
  (a + b)[not c] := f(a, (a - b) * c);
  r.f := true;
  (not r).f.g := false;
  f(x).g := (a and b) or (not c);
  put 1000000000;
  sort{set[?t]}(a, 1);
  set[int]$add_all(a)[1] := int$mod(7, 5);
  bool$not(true);
  record[a:int,b:oneof[c:null]]$get_a(x);
  if a < b then
  end;
  if a <= b then
    break
  else
  end;
  if a = b then
    signal bad
  elseif not (a = b) then
    return
  elseif a mod b then
    return 2
  else
    return up(down((x / y).z)).z
  end;
  if c then
  else
    if d then
      break
    end;
    break
  end;
  while (a[i] < 1) and (b.c < (f() * 2)) do
    while true do
    end;
    break
  end;
  for x: oneof[a:int] in all(a, b) do
    for y: ?t in set[?t]$all() do
      put y
    end
  end;
  begin
  except
  when others:
  end;
  begin
    break;
    break
  except
  when overflow:
    begin
      break
    except
    when a:
    end
  when bounds:
  when others:
    break
  end;
  tagcase f(x)
  tag a(v: int):
    put v
  tag b(w: null):
  end;
  return
end

iter each(a: int) yields int signals (x) is
  yield a
end

cluster box[t] is new, get where t has equal: proc(?t, ?t) returns bool
  rep = record[v:?t]
  proc new(x: ?t) returns box[?t] is
    return up(record[v:?t]$make(x))
  end
  iter get(b: box[?t]) yields ?t is
    yield down(b).v;
    if a then
      put 1
    end
  end
  proc help() is
  end
end

cluster c is f
  rep = null
  proc f() signals (a, b, c) is
  end
end
`

func TestCanonicalText(t *testing.T) {
	want := canonical
	l := mustParse(t, want)
	if s := mustPrint(t, l); s != want {
		t.Errorf("%s", s)
	}
	if len(l) != 5 || len(l[1].Routines[0].Nodes) < 150 {
		t.Errorf("%d modules", len(l))
	}
}

func TestPrintOfExamples(t *testing.T) {
	for src, want := range map[string]string{
		"":           "",
		firstExample: lines("proc p(a: int) returns int is", "  return a + 1", "end"),
		"proc p() is if a then put 1 else if b then else put 2 end end end":        lines("proc p() is", "  if a then", "    put 1", "  elseif b then", "  else", "    put 2", "  end", "end"),
		"proc p() is if a then else if b then end; break end end":                  lines("proc p() is", "  if a then", "  else", "    if b then", "    end;", "    break", "  end", "end"),
		"proc p() is if a then else while b do end end end":                        lines("proc p() is", "  if a then", "  else", "    while b do", "    end", "  end", "end"),
		"proc p() is if a then else if b then else if c then end end end; f() end": lines("proc p() is", "  if a then", "  elseif b then", "  elseif c then", "  end;", "  f()", "end"),
		"proc p() is end proc q() is end":                                          lines("proc p() is", "end", "", "proc q() is", "end"),
		"proc p(a:int,b:int)signals(a,b)is f(a,b)end":                              lines("proc p(a: int, b: int) signals (a, b) is", "  f(a, b)", "end"),
		"cluster a is f,g rep=int proc f()is end proc g()is end end":               lines("cluster a is f, g", "  rep = int", "  proc f() is", "  end", "  proc g() is", "  end", "end"),
	} {
		if s := mustPrint(t, mustParse(t, src)); s != want {
			t.Errorf("%q: %q", src, s)
		}
	}
}

func TestPrintExprOfExamples(t *testing.T) {
	for src, want := range map[string]string{
		"((a+b))*c[i].f": "(a + b) * c[i].f", "stack[int]$push(s,(not x))": "stack[int]$push(s, not x)", "oneof[a:int,b:null]$make_a(sort{int}(x))": "oneof[a:int,b:null]$make_a(sort{int}(x))",
		"x": "x", "((7))": "7", "(true)": "true", "false": "false", "nil": "nil", "a[(b+c)]": "a[b + c]", "(a)[b]": "a[b]", "(a+b)[c]": "(a + b)[c]", "(not a).f": "(not a).f", "not(a.f)": "not a.f", "not(not a)": "not (not a)",
		"(not a)=(not b)": "(not a) = (not b)", "(a<b)and(c<=d)": "(a < b) and (c <= d)", "(f(a+b))mod(g())": "f(a + b) mod g()", "up((a-b))": "up(a - b)", "down(((a/b).c))": "down((a / b).c)",
		"f(a,(b),(c or d))": "f(a, b, c or d)", "int$and(1,2)": "int$and(1, 2)", "a $ b _ c ( )": "a$b_c()", "set [ ? t ] $ f ( )": "set[?t]$f()", "f { array [ int ] } ( )": "f{array[int]}()", "(((a[b])[c]).d)[e]": "a[b][c].d[e]",
		"up(down(a))": "up(down(a))", "(int$f())+(f{int}())": "int$f() + f{int}()", "a*(b*c)": "a * (b * c)", "(a*b)*c": "(a * b) * c",
	} {
		l, f := tree.ParseExpr(src)
		if s, e := tree.PrintExpr(l); f != ok || e != api.OK || s != want {
			t.Errorf("%q: %v, %q, %d", src, f, s, e)
		}
	}
	for i, l := range [][]api.Node{
		nil, {node(api.StSeq)}, {named(api.ExVar, "if")}, {named(api.ExVar, "a"), named(api.ExVar, "b")}, {named(api.ExVar, "a"), node(api.StPut, 0)}, {node(api.StSeq), named(api.ExVar, "a")},
		{named(api.ExVar, "a"), named(api.ExOp, "not", 1)}, {named(api.ExOp, "not", 0)}, slices.Repeat([]api.Node{node(api.ExNil)}, 401), {named(api.ExVar, "a"), node(api.StSeq), node(api.ExIndex, 0, 1)},
	} {
		if s, e := tree.PrintExpr(l); s != "" || e != api.ErrTree {
			t.Errorf("%d: %q, %d", i, s, e)
		}
	}
	long := []api.Node{named(api.ExVar, "a")}
	for i := range 400 {
		s, e := tree.PrintExpr(long)
		if want := "a" + strings.Repeat(".b", i); s != want || e != api.OK {
			t.Errorf("%d nodes: %d", i+1, e)
		}
		long = append(long, named(api.ExField, "b", i))
	}
	if s, e := tree.PrintExpr(long); s != "" || e != api.ErrTree {
		t.Errorf("401 nodes: %d", e)
	}
}

func TestFaultsOfPrint(t *testing.T) {
	right := mustParse(t, "proc p() is end")
	for i, x := range []struct {
		l []api.Module
		e api.Errno
	}{
		{nil, api.OK}, {slices.Repeat(right, 20), api.OK}, {slices.Repeat(right, 21), api.ErrLimit}, {make([]api.Module, 21), api.ErrLimit}, {make([]api.Module, 1), api.ErrTree}, {append(slices.Repeat(right, 19), api.Module{}), api.ErrTree},
	} {
		s, e := tree.Print(x.l)
		if e != x.e || e != api.OK && s != "" {
			t.Errorf("%d: %q, %d", i, s, e)
		}
	}
	// A text may be longer than a source.
	m := newMaker(1)
	var l []api.Module
	for range 20 {
		x := m.module()
		for len(x.Routines[0].Nodes) < 300 {
			x.Routines[0].Nodes = m.body(350)
		}
		l = append(l, x)
	}
	if s := mustPrint(t, l); len(s) <= 20000 {
		t.Errorf("%d bytes", len(s))
	}
}

// P2.2, the first half: what is made is read as it was.
func TestParseOfPrint(t *testing.T) {
	m := newMaker(2)
	for range 1500 {
		l := m.source()
		s := mustPrint(t, l)
		back, f := tree.Parse(s)
		if f != ok || !equalModules(back, l) {
			t.Fatalf("P2.2: %v: %s", f, s)
		}
		if again := mustPrint(t, back); again != s {
			t.Fatalf("P2.2: %s and %s", s, again)
		}
	}
}

// P2.2, the second half, and P2.3: neither blanks nor lines nor parentheses change anything.
func TestLayout(t *testing.T) {
	g := newGrammar(chapterGrammar)
	r := rand.New(rand.NewPCG(3, 3))
	read := 0
	for i := range 1500 {
		texts := g.sentence(r, "source")
		if i%3 == 0 {
			texts = textsOf(canonical)
		}
		l, f := tree.Parse(strings.Join(texts, " "))
		other, g := tree.Parse(laidOut(r, texts))
		if f.Err != g.Err || !equalModules(l, other) {
			t.Fatalf("P2.3: %q: %v, %v", texts, f, g)
		}
		if f != ok {
			continue
		}
		read++
		s := mustPrint(t, l)
		back, f := tree.Parse(s)
		if len(s) <= 20000 && (f != ok || !equalModules(back, l)) {
			t.Fatalf("P2.2: %v: %s", f, s)
		}
		if !isCanonical(s) {
			t.Fatalf("P2.2: %s", s)
		}
	}
	if read < 600 {
		t.Errorf("only %d of 1500 texts can be read", read)
	}
}

// isCanonical asks for what can be seen in each line by itself.
func isCanonical(s string) bool {
	for line := range strings.Lines(s) {
		text := strings.TrimLeft(line, " ")
		if (len(line)-len(text))%2 != 0 || !strings.HasSuffix(line, "\n") || strings.HasSuffix(text, " \n") || strings.Contains(text, "  ") {
			return false
		}
		for _, bad := range []string{" ,", " ;", " : ", " )", " ]", " }", " .", " $", " _", "( ", "[ ", "{ ", ". ", "$ ", "_ ", "? ", "up (", "down ("} {
			if strings.Contains(text, bad) {
				return false
			}
		}
	}
	return !strings.Contains(s, "\n\n\n") && !strings.HasSuffix(s, "\n\n")
}

// wrapped puts parentheses around the text of an expression here and there.
func wrapped(r *rand.Rand, s string) string {
	for range r.IntN(3) {
		s = "(" + s + ")"
	}
	return s
}

func TestFurtherParentheses(t *testing.T) {
	m := newMaker(4)
	for range 300 {
		a, _ := tree.PrintExpr(m.exprNodes(10))
		b, _ := tree.PrintExpr(m.exprNodes(10))
		for _, form := range []string{
			"x := A", "var x: int := A", "put A", "return A", "yield A", "if A then put B elseif B then x := A end", "while A do end", "f(A, B); int$f(B, A)", "tagcase A tag a(b: int): put B end", "for x: int in f(A, B) do put A end",
			"(A)[B] := A", "x[A] := B", "(A).f := B", "x := (A) + (B)", "x := not (A)", "x := (A).f", "x := (A)[B]", "x := up(A)", "x := down(B)", "x := sort{int}(A, B)", "f(A)[B].c := A",
		} {
			plain := strings.NewReplacer("A", a, "B", b).Replace(form)
			more := strings.NewReplacer("A", wrapped(m.Rand, a), "B", wrapped(m.Rand, b)).Replace(form)
			if one, two := body(t, plain), body(t, more); !equalNodes(one, two) {
				t.Fatalf("P2.3: %q and %q", plain, more)
			}
		}
	}
}

// P2.6.
func TestParseExprOfPrintExpr(t *testing.T) {
	m := newMaker(5)
	for range 3000 {
		l := m.exprNodes(m.IntN(40))
		s, e := tree.PrintExpr(l)
		back, f := tree.ParseExpr(s)
		if e != api.OK || f != ok || !equalNodes(back, l) {
			t.Fatalf("P2.6: %q: %d, %v", s, e, f)
		}
	}
	for range 300 {
		x := m.module()
		text := mustPrint(t, []api.Module{x})
		for _, r := range x.Routines {
			for i, n := range r.Nodes {
				if n.Kind < api.ExInt || n.Kind > api.ExDown {
					continue
				}
				l, e := tree.Subtree(r.Nodes, i)
				if s, err := tree.PrintExpr(l); e != api.OK || err != api.OK || !strings.Contains(text, s) {
					t.Fatalf("P2.6: %q does not stand in %s", s, text)
				}
			}
		}
	}
}

func TestArgumentsStayAsTheyWere(t *testing.T) {
	m := newMaker(6)
	for range 200 {
		l := m.source()
		var before []api.Module
		for _, x := range l {
			x.Routines = slices.Clone(x.Routines)
			for i := range x.Routines {
				x.Routines[i].Nodes = copied(x.Routines[i].Nodes)
			}
			before = append(before, x)
		}
		e := m.exprNodes(20)
		beforeExpr := copied(e)
		mustPrint(t, l)
		for _, x := range l {
			tree.Check(x)
			for _, r := range x.Routines {
				tree.CheckNodes(r.Nodes)
				tree.Uses(r.Nodes)
			}
		}
		tree.PrintExpr(e)
		if !equalModules(l, before) || !equalNodes(e, beforeExpr) {
			t.Fatalf("R3: an argument was changed")
		}
	}
}
