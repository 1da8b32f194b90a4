package tree_test

import (
	"regexp"
	"slices"
	"strings"
	"testing"

	"argus/api"
	"argus/token"
	"argus/tree"
)

// plainRow is a row of the chapter's table: which fields there are, and the letters of the kids (c for a call, e for other expressions, q for a StSeq, w, o for a StWhen with and without a name, a for a StArm, s for other statements).
type plainRow struct{ fields, kids string }

func plainRows() map[uint8]plainRow {
	return map[uint8]plainRow{
		api.ExInt: {"number", ""}, api.ExBool: {"bit", ""}, api.ExNil: {"", ""}, api.ExVar: {"Name", ""},
		api.ExCall: {"call", "[ec]{0,6}"}, api.ExOp: {"operator", "[ec]{1,2}"}, api.ExIndex: {"", "[ec][ec]"}, api.ExField: {"Name", "[ec]"},
		api.ExUp: {"", "[ec]"}, api.ExDown: {"", "[ec]"}, api.StSeq: {"", "s*"}, api.StVar: {"Name Type", "[ec]"}, api.StSet: {"Name", "[ec]"},
		api.StStore: {"", "[ec][ec][ec]"}, api.StField: {"Name", "[ec][ec]"}, api.StDo: {"", "c"}, api.StIf: {"", "[ec]qq?"}, api.StWhile: {"", "[ec]q"},
		api.StFor: {"Name Type", "cq"}, api.StReturn: {"", "[ec]?"}, api.StYield: {"", "[ec]"}, api.StPut: {"", "[ec]"}, api.StSignal: {"Name", ""},
		api.StExcept: {"", "q(w+o?|o)"}, api.StWhen: {"when", "q"}, api.StBreak: {"", ""}, api.StCase: {"", "[ec]a+"}, api.StArm: {"arm", "q"},
	}
}

func plainLetter(n api.Node) string {
	switch {
	case n.Kind == 5:
		return "c"
	case n.Kind >= 1 && n.Kind <= 10:
		return "e"
	case n.Kind == 20:
		return "q"
	case n.Kind == 33 && n.Name == "":
		return "o"
	case n.Kind == 33:
		return "w"
	case n.Kind == 36:
		return "a"
	}
	return "s"
}

var (
	nameForm = regexp.MustCompile(`^[a-z][a-z0-9]{0,11}$`)
	typeForm = regexp.MustCompile(`^(?:int|bool|null|\?t|[a-z][a-z0-9]{0,11})$`)
	partForm = regexp.MustCompile(`^[a-z][a-z0-9]{0,11}:T$`)
	innerOne = regexp.MustCompile(`[?a-z0-9]+\[[^][]*\]|\?t`)
)

func plainIsName(s string) bool { return nameForm.MatchString(s) && !token.IsWord(s) }

// plainIsType takes types that stand inside, from the innermost on, for the letter T.
func plainIsType(s string) bool {
	if len(s) > 100 || strings.Contains(s, "T") {
		return false
	}
	good := true
	leaf := func(s string) string {
		if s == "T" || typeForm.MatchString(s) && (s == "int" || s == "bool" || s == "null" || s == "?t" || plainIsName(s)) {
			return "T"
		}
		return "!"
	}
	for strings.Contains(s, "[") {
		next := innerOne.ReplaceAllStringFunc(s, func(x string) string {
			if x == "?t" {
				return "T"
			}
			name, inner, _ := strings.Cut(strings.TrimSuffix(x, "]"), "[")
			if name != "record" && name != "oneof" {
				good = good && (name == "array" || plainIsName(name)) && leaf(inner) == "T"
				return "T"
			}
			for _, part := range strings.Split(inner, ",") {
				label, typ, _ := strings.Cut(part, ":")
				good = good && plainIsName(label) && partForm.MatchString(label+":"+leaf(typ))
			}
			return "T"
		})
		if next == s {
			return false
		}
		s = next
	}
	return good && leaf(s) == "T"
}

func plainIsOp(s string) bool {
	l := strings.Split(s, "_")
	for _, name := range l {
		if !plainIsName(name) {
			return len(l) == 1 && slices.Contains([]string{"mod", "and", "or", "not"}, s)
		}
	}
	return len(l) <= 2
}

func plainFields(n api.Node, what string) bool {
	bare := api.Node{Kind: n.Kind, Kids: n.Kids}
	good := true
	switch what {
	case "number":
		good, bare.N = n.N >= 0 && n.N <= 1000000000, n.N
	case "bit":
		good, bare.N = n.N == 0 || n.N == 1, n.N
	case "Name":
		good, bare.Name = plainIsName(n.Name), n.Name
	case "Name Type":
		good, bare.Name, bare.Type = plainIsName(n.Name) && plainIsType(n.Type), n.Name, n.Type
	case "call":
		bare.Name = n.Name
		if n.Var == "" {
			good, bare.Type = plainIsName(n.Name) && (n.Type == "" || plainIsType(n.Type)), n.Type
		} else {
			good, bare.Var = plainIsOp(n.Name) && plainIsType(n.Var), n.Var
		}
	case "operator":
		one, two := n.Name == "not", slices.Contains(strings.Fields("+ - * / mod < <= = and or"), n.Name)
		good, bare.Name = one && len(n.Kids) == 1 || two && len(n.Kids) == 2, n.Name
	case "when":
		good, bare.Name = n.Name == "" || plainIsName(n.Name), n.Name
	case "arm":
		good, bare.Name, bare.Var, bare.Type = plainIsName(n.Name) && plainIsName(n.Var) && plainIsType(n.Type), n.Name, n.Var, n.Type
	}
	return good && equalNode(n, bare)
}

// flattened lists the tree of a node in postorder, by indices; it gives up when that becomes too long.
func flattened(l []api.Node, i int, most int) ([]int, bool) {
	var out []int
	for _, k := range l[i].Kids {
		if k < 0 || k >= len(l) || most <= 0 {
			return nil, false
		}
		inner, ok := flattened(l, k, most-1)
		if out = append(out, inner...); !ok || len(out) > len(l) {
			return nil, false
		}
	}
	return append(out, i), true
}

// plainCheck is a second way to do what CheckNodes is to do.
func plainCheck(l []api.Node) api.Errno {
	if len(l) < 1 || len(l) > 400 || l[len(l)-1].Kind != 20 {
		return api.ErrTree
	}
	order, ok := flattened(l, len(l)-1, len(l))
	if !ok || len(order) != len(l) {
		return api.ErrTree
	}
	for i, at := range order {
		if i != at {
			return api.ErrTree
		}
	}
	table := plainRows()
	for _, n := range l {
		row, ok := table[n.Kind]
		letters := ""
		for _, k := range n.Kids {
			letters += plainLetter(l[k])
		}
		if !ok || !plainFields(n, row.fields) || !regexp.MustCompile("^(?:"+row.kids+")$").MatchString(letters) {
			return api.ErrTree
		}
	}
	return api.OK
}

func copied(l []api.Node) []api.Node {
	l = slices.Clone(l)
	for i := range l {
		l[i].Kids = slices.Clone(l[i].Kids)
	}
	return l
}

// harm changes something of some node.
func harm(m *maker, l []api.Node) []api.Node {
	l = copied(l)
	i := m.IntN(len(l))
	n := &l[i]
	switch m.IntN(12) {
	case 0:
		n.Kind = uint8(m.IntN(40))
	case 1:
		n.Name = pick(m, "", "a", "if", "not", "+", "mod", "thirteenlette", "A", "a_b")
	case 2:
		n.Var = pick(m, "", "a", "int", "array[int", "if")
	case 3:
		n.Type = pick(m, "", "a", "int", "?u", "if", "array[ int]")
	case 4:
		n.N = pick(m, 0, 1, 2, -1, 1000000000, 1000000001)
	case 5:
		n.Kids = append(n.Kids, m.IntN(len(l)+2)-1)
	case 6:
		if k := len(n.Kids); k > 0 {
			n.Kids = n.Kids[:k-1]
		}
	case 7:
		if k := len(n.Kids); k > 1 {
			n.Kids[0], n.Kids[k-1] = n.Kids[k-1], n.Kids[0]
		}
	case 8:
		if k := len(n.Kids); k > 0 {
			n.Kids[m.IntN(k)] += pick(m, 1, -1)
		}
	case 9:
		l = slices.Delete(l, i, i+1)
	case 10:
		l = slices.Insert(l, i, pick(m, node(api.StBreak), named(api.ExVar, "a"), node(api.StSeq)))
	case 11:
		j := m.IntN(len(l))
		l[i], l[j] = l[j], l[i]
	}
	return l
}

func TestCheckNodesAgreesWithTheTable(t *testing.T) {
	m := newMaker(21)
	bad := 0
	for range 3000 {
		l := m.body(m.IntN(30))
		if e := tree.CheckNodes(l); e != api.OK || plainCheck(l) != api.OK {
			t.Fatalf("%v: %d", l, e)
		}
		for range 3 {
			h := harm(m, l)
			want := plainCheck(h)
			if e := tree.CheckNodes(h); e != want {
				t.Fatalf("%v: %d, and not %d", h, e, want)
			}
			if want != api.OK {
				bad++
			}
		}
	}
	if bad < 4500 || bad > 8750 {
		t.Errorf("%d of 9000 bodies are bad: too one-sided", bad)
	}
}

// sampleNodes has a node of each kind, by its fields alone, and the kids that it may have.
func sampleNodes() []struct {
	n    api.Node
	kids []string
} {
	type row = struct {
		n    api.Node
		kids []string
	}
	call := api.Node{Kind: api.ExCall, Name: "f_g", Var: "set[int]"}
	arm := api.Node{Kind: api.StArm, Name: "a", Var: "b", Type: "int"}
	return []row{
		{api.Node{Kind: api.ExInt, N: 5}, []string{""}}, {api.Node{Kind: api.ExBool, N: 1}, []string{""}}, {node(api.ExNil), []string{""}}, {named(api.ExVar, "a"), []string{""}},
		{named(api.ExCall, "f"), []string{"", "e", "ee", "eeeeee", "ce"}}, {typed(api.ExCall, "f", "?t"), []string{"", "e", "eeeeee"}}, {call, []string{"", "e", "eeeeee"}},
		{named(api.ExOp, "not"), []string{"e", "c"}}, {named(api.ExOp, "mod"), []string{"ee", "ec"}}, {node(api.ExIndex), []string{"ee"}}, {named(api.ExField, "a"), []string{"e"}}, {node(api.ExUp), []string{"e"}}, {node(api.ExDown), []string{"e"}},
		{node(api.StSeq), []string{"", "s", "sss", strings.Repeat("s", 20)}}, {typed(api.StVar, "a", "int"), []string{"e"}}, {named(api.StSet, "a"), []string{"e"}}, {node(api.StStore), []string{"eee"}}, {named(api.StField, "a"), []string{"ee"}},
		{node(api.StDo), []string{"c"}}, {node(api.StIf), []string{"eq", "eqq"}}, {node(api.StWhile), []string{"eq"}}, {typed(api.StFor, "a", "int"), []string{"cq"}}, {node(api.StReturn), []string{"", "e"}}, {node(api.StYield), []string{"e"}}, {node(api.StPut), []string{"e"}},
		{named(api.StSignal, "a"), []string{""}}, {node(api.StExcept), []string{"qw", "qo", "qwwo", "qww"}}, {named(api.StWhen, "a"), []string{"q"}}, {node(api.StWhen), []string{"q"}}, {node(api.StBreak), []string{""}}, {node(api.StCase), []string{"ea", "caaa"}}, {arm, []string{"q"}},
	}
}

// placed returns a body in which a node stands, with kids of some letters.
func placed(n api.Node, kids string) []api.Node {
	var l []api.Node
	add := func(n api.Node) int {
		l = append(l, n)
		return len(l) - 1
	}
	n.Kids = nil
	for _, k := range kids {
		var at int
		switch k {
		case 'e':
			at = add(named(api.ExVar, "x"))
		case 'c':
			at = add(named(api.ExCall, "g"))
		case 's':
			at = add(node(api.StBreak))
		case 'q':
			at = add(node(api.StSeq))
		case 'w':
			q := add(node(api.StSeq))
			at = add(named(api.StWhen, "z", q))
		case 'o':
			q := add(node(api.StSeq))
			at = add(node(api.StWhen, q))
		case 'a':
			q := add(node(api.StSeq))
			at = add(api.Node{Kind: api.StArm, Name: "u", Var: "v", Type: "int", Kids: []int{q}})
		}
		n.Kids = append(n.Kids, at)
	}
	first := len(l)
	at := add(n)
	switch {
	case n.Kind <= api.ExDown:
		at = add(node(api.StPut, at))
	case n.Kind == api.StSeq:
		return l
	case n.Kind == api.StWhen, n.Kind == api.StArm:
		// Its own kids stand behind what has to be ahead of it.
		front, kind := node(api.StSeq), api.StExcept
		if n.Kind == api.StArm {
			front, kind = node(api.ExNil), api.StCase
		}
		l = slices.Insert(l, 0, front)
		for i := range l {
			for j := range l[i].Kids {
				l[i].Kids[j]++
			}
		}
		at = add(node(kind, 0, first+1))
	}
	add(node(api.StSeq, at))
	return l
}

func TestRowsOfTheTable(t *testing.T) {
	met := map[uint8]bool{}
	all := []string{"", "e", "c", "s", "q", "w", "o", "a", "ee", "ec", "ce", "cc", "eq", "cq", "qe", "eqq", "eqqq", "eee", "eeee", "eeeeee", "eeeeeee", "ea", "ca", "qa", "sa", "wa", "e", "eae", "caaa", "caas", "qw", "qo", "qwo", "qow", "qoo", "qwwo", "qww", "wq", "ww", "ae", "aa", "sq", "qs", "ss", "sss", "se", "es", "qq", strings.Repeat("s", 20)}
	for _, x := range sampleNodes() {
		met[x.n.Kind] = true
		for _, kids := range append(all, x.kids...) {
			l := placed(x.n, kids)
			want := plainCheck(l)
			if want != api.OK && slices.Contains(x.kids, kids) {
				t.Fatalf("%v with %q: the table says %d", x.n, kids, want)
			}
			if e := tree.CheckNodes(l); e != want {
				t.Errorf("%v with %q: %d, and not %d", x.n, kids, e, want)
			}
		}
		askFields(t, x.n, x.kids[0])
	}
	if len(met) != len(plainRows()) {
		t.Errorf("%d kinds", len(met))
	}
}

// askFields changes each field of a node that is right.
func askFields(t *testing.T, right api.Node, kids string) {
	t.Helper()
	if e := tree.CheckNodes(placed(right, kids)); e != api.OK {
		t.Errorf("%v with %q: %d", right, kids, e)
	}
	var others []api.Node
	for _, s := range []string{"", "a", "if", "not", "+", "and", "a_b", "mod", "a_b_c", "twelveletter", "thirteenlette", "A", "int", "?t", "?u", "set[bool]", "array[int", " int", "1"} {
		one, two, three := right, right, right
		one.Name, two.Var, three.Type = s, s, s
		others = append(others, one, two, three)
	}
	for _, n := range []int{-1, 0, 1, 2, 1000000000, 1000000001, 1 << 40, -1 << 63} {
		one := right
		one.N = n
		others = append(others, one)
	}
	for kind := range 256 {
		one := right
		one.Kind = uint8(kind)
		others = append(others, one)
	}
	for _, n := range others {
		l := placed(n, kids)
		if e, want := tree.CheckNodes(l), plainCheck(l); e != want {
			t.Errorf("%v with %q: %d, and not %d", n, kids, e, want)
		}
	}
}

func TestNodesThatAreNoBody(t *testing.T) {
	a, seq := named(api.ExVar, "a"), node(api.StSeq)
	for i, l := range [][]api.Node{
		nil, {a}, {a, node(api.StPut, 0)}, {seq, seq}, {seq, node(api.StSeq, 0)}, {a, seq}, {node(api.StSeq, 0)}, {node(api.StSeq, -1)}, {node(api.StSeq, 1)}, {node(api.StSeq, 1<<62)}, {node(api.StSeq, -1<<63)},
		{node(api.StBreak), node(api.StBreak), node(api.StSeq, 1, 0)}, {node(api.StBreak), node(api.StSeq, 0, 0)}, {node(api.StBreak), node(api.StBreak), node(api.StSeq, 1)}, {node(api.StBreak), node(api.StBreak), node(api.StSeq, 0)},
		{a, node(api.StPut, 0), node(api.StSeq, 0, 1)}, {a, a, node(api.StPut, 0), node(api.StPut, 1), node(api.StSeq, 2, 3)}, {node(api.StSeq, slices.Repeat([]int{0}, 100000)...)},
		append(slices.Repeat([]api.Node{node(api.StBreak)}, 400), node(api.StSeq)), slices.Repeat([]api.Node{node(api.StBreak)}, 400), make([]api.Node, 3), make([]api.Node, 100000),
	} {
		if e := tree.CheckNodes(l); e != api.ErrTree {
			t.Errorf("%d: %d", i, e)
		}
	}
	for _, size := range []int{1, 2, 399, 400, 401} {
		l := slices.Repeat([]api.Node{node(api.StBreak)}, size-1)
		all := seq
		for i := range l {
			all.Kids = append(all.Kids, i)
		}
		if e := tree.CheckNodes(append(l, all)); (e == api.OK) != (size <= 400) {
			t.Errorf("%d nodes: %d", size, e)
		}
	}
}

// goodModules returns a procedure, an iterator and a cluster, with needs.
func goodModules(t *testing.T) (p, i, c api.Module) {
	l := mustParse(t, `proc p[t](a: int, b: ?t) returns int signals (x, y) where t has eq: proc(?t) returns int signals (z), lt: iter(int) yields ?t is put a end
		iter i() yields bool is end
		cluster c is f, g rep = record[a:int] proc f(a: int) signals (s) is end iter g(a: c) yields int is put 1 end proc h() returns c is end end`)
	return l[0], l[1], l[2]
}

func TestCheckOfModules(t *testing.T) {
	long := strings.Repeat("array[", 14) + "int" + strings.Repeat("]", 14)
	seven := strings.Fields("a b c d e f g")
	for what, change := range map[string]func(p, i, c *api.Module) *api.Module{
		"nothing of p":              func(p, i, c *api.Module) *api.Module { return p },
		"nothing of i":              func(p, i, c *api.Module) *api.Module { return i },
		"nothing of c":              func(p, i, c *api.Module) *api.Module { return c },
		"no Param":                  func(p, i, c *api.Module) *api.Module { p.Face.Param = false; return p },
		"a Param":                   func(p, i, c *api.Module) *api.Module { i.Face.Param = true; return i },
		"another name of a cluster": func(p, i, c *api.Module) *api.Module { c.Face.Name = "f"; return c },
		"two parameters alike":      func(p, i, c *api.Module) *api.Module { p.Routines[0].Params[1] = "a"; return p },
		"fewer operations":          func(p, i, c *api.Module) *api.Module { c.Face.Ops = c.Face.Ops[:1]; return c },
		"all operations": func(p, i, c *api.Module) *api.Module {
			c.Face.Ops = append(c.Face.Ops, api.Op{Name: "h", Sig: c.Routines[2].Sig})
			return c
		},
		"no needs":    func(p, i, c *api.Module) *api.Module { p.Face.Needs = nil; return p },
		"another rep": func(p, i, c *api.Module) *api.Module { c.Rep = "c"; return c },
		"no result": func(p, i, c *api.Module) *api.Module {
			p.Routines[0].Sig.Result = ""
			p.Face.Ops[0].Sig.Result = ""
			return p
		},
		"needs of others": func(p, i, c *api.Module) *api.Module { c.Face.Needs = p.Face.Needs; return c },
	} {
		p, i, c := goodModules(t)
		if e := tree.Check(*change(&p, &i, &c)); e != api.OK {
			t.Errorf("%s: %d", what, e)
		}
	}
	both := func(m *api.Module, change func(s *api.Sig)) *api.Module {
		change(&m.Routines[0].Sig)
		m.Face.Ops[0].Sig = m.Routines[0].Sig
		return m
	}
	for what, change := range map[string]func(p, i, c *api.Module) *api.Module{
		"kind 0":                      func(p, i, c *api.Module) *api.Module { p.Face.Kind = 0; return p },
		"kind 4":                      func(p, i, c *api.Module) *api.Module { p.Face.Kind = 4; return p },
		"kind 255":                    func(p, i, c *api.Module) *api.Module { c.Face.Kind = 255; return c },
		"the kind of an iterator":     func(p, i, c *api.Module) *api.Module { p.Face.Kind = api.ModIter; return p },
		"the kind of a procedure":     func(p, i, c *api.Module) *api.Module { i.Face.Kind = api.ModProc; return i },
		"the kind of a cluster":       func(p, i, c *api.Module) *api.Module { p.Face.Kind = api.ModCluster; return p },
		"a cluster as a procedure":    func(p, i, c *api.Module) *api.Module { c.Face.Kind = api.ModProc; return c },
		"no name":                     func(p, i, c *api.Module) *api.Module { c.Face.Name = ""; return c },
		"a word as a name":            func(p, i, c *api.Module) *api.Module { c.Face.Name = "cluster"; return c },
		"a long name":                 func(p, i, c *api.Module) *api.Module { c.Face.Name = "thirteenlette"; return c },
		"another name":                func(p, i, c *api.Module) *api.Module { p.Face.Name = "q"; return p },
		"another name of the routine": func(p, i, c *api.Module) *api.Module { p.Routines[0].Name = "q"; return p },
		"another name of the op":      func(p, i, c *api.Module) *api.Module { p.Face.Ops[0].Name = "q"; return p },
		"other names of both":         func(p, i, c *api.Module) *api.Module { p.Routines[0].Name = "q"; p.Face.Ops[0].Name = "q"; return p },
		"a rep of a procedure":        func(p, i, c *api.Module) *api.Module { p.Rep = "int"; return p },
		"a rep of an iterator":        func(p, i, c *api.Module) *api.Module { i.Rep = "int"; return i },
		"no rep":                      func(p, i, c *api.Module) *api.Module { c.Rep = ""; return c },
		"a bad rep":                   func(p, i, c *api.Module) *api.Module { c.Rep = "array[]"; return c },
		"a long rep":                  func(p, i, c *api.Module) *api.Module { c.Rep = long; return c },
		"no routines":                 func(p, i, c *api.Module) *api.Module { p.Routines = nil; return p },
		"no routines and ops":         func(p, i, c *api.Module) *api.Module { c.Routines, c.Face.Ops = nil, nil; return c },
		"no ops":                      func(p, i, c *api.Module) *api.Module { p.Face.Ops = nil; return p },
		"no ops of a cluster":         func(p, i, c *api.Module) *api.Module { c.Face.Ops = nil; return c },
		"two routines": func(p, i, c *api.Module) *api.Module {
			p.Routines = append(p.Routines, c.Routines[0])
			return p
		},
		"two routines and ops": func(p, i, c *api.Module) *api.Module {
			p.Routines, p.Face.Ops = append(p.Routines, c.Routines[0]), append(p.Face.Ops, c.Face.Ops[0])
			return p
		},
		"two ops":              func(p, i, c *api.Module) *api.Module { p.Face.Ops = append(p.Face.Ops, p.Face.Ops[0]); return p },
		"two routines alike":   func(p, i, c *api.Module) *api.Module { c.Routines[2].Name = "g"; return c },
		"21 routines":          manyRoutines(21),
		"a word as a routine":  func(p, i, c *api.Module) *api.Module { c.Routines[2].Name = "mod"; return c },
		"a pair as a routine":  func(p, i, c *api.Module) *api.Module { c.Routines[2].Name = "a_b"; return c },
		"ops in another order": func(p, i, c *api.Module) *api.Module { slices.Reverse(c.Face.Ops); return c },
		"ops of others":        func(p, i, c *api.Module) *api.Module { c.Face.Ops = c.Face.Ops[1:]; return c },
		"more ops": func(p, i, c *api.Module) *api.Module {
			c.Face.Ops = append(c.Face.Ops, api.Op{Name: "h", Sig: c.Routines[2].Sig}, api.Op{Name: "k"})
			return c
		},
		"another Iter":        func(p, i, c *api.Module) *api.Module { c.Face.Ops[1].Sig.Iter = false; return c },
		"another argument":    func(p, i, c *api.Module) *api.Module { c.Face.Ops[0].Sig.Args[0] = "bool"; return c },
		"more arguments":      func(p, i, c *api.Module) *api.Module { c.Face.Ops[0].Sig.Args = []string{"int", "int"}; return c },
		"another result":      func(p, i, c *api.Module) *api.Module { c.Face.Ops[1].Sig.Result = "bool"; return c },
		"another signal":      func(p, i, c *api.Module) *api.Module { c.Face.Ops[0].Sig.Signals[0] = "q"; return c },
		"fewer signals":       func(p, i, c *api.Module) *api.Module { c.Face.Ops[0].Sig.Signals = nil; return c },
		"fewer parameters":    func(p, i, c *api.Module) *api.Module { p.Routines[0].Params = []string{"a"}; return p },
		"more parameters":     func(p, i, c *api.Module) *api.Module { i.Routines[0].Params = []string{"a"}; return i },
		"a word as parameter": func(p, i, c *api.Module) *api.Module { p.Routines[0].Params[1] = "if"; return p },
		"an empty parameter":  func(p, i, c *api.Module) *api.Module { p.Routines[0].Params[1] = ""; return p },
		"no nodes":            func(p, i, c *api.Module) *api.Module { p.Routines[0].Nodes = nil; return p },
		"bad nodes":           func(p, i, c *api.Module) *api.Module { c.Routines[2].Nodes = []api.Node{node(api.ExNil)}; return c },
		"five needs": func(p, i, c *api.Module) *api.Module {
			p.Face.Needs = []api.Need{{Op: "a"}, {Op: "b"}, {Op: "c"}, {Op: "d"}, {Op: "e"}}
			return p
		},
		"needs in another order": func(p, i, c *api.Module) *api.Module { slices.Reverse(p.Face.Needs); return p },
		"needs alike":            func(p, i, c *api.Module) *api.Module { p.Face.Needs[1].Op = "eq"; return p },
		"a word as a need":       func(p, i, c *api.Module) *api.Module { p.Face.Needs[1].Op = "mod"; return p },
		"a pair as a need":       func(p, i, c *api.Module) *api.Module { p.Face.Needs[1].Op = "lt_a"; return p },
		"no need":                func(p, i, c *api.Module) *api.Module { p.Face.Needs[0].Op = ""; return p },
		"a need's argument":      func(p, i, c *api.Module) *api.Module { p.Face.Needs[0].Sig.Args[0] = "?u"; return p },
		"a need's result":        func(p, i, c *api.Module) *api.Module { p.Face.Needs[0].Sig.Result = "if"; return p },
		"a need's yields":        func(p, i, c *api.Module) *api.Module { p.Face.Needs[1].Sig.Result = ""; return p },
		"a need's signal":        func(p, i, c *api.Module) *api.Module { p.Face.Needs[0].Sig.Signals[0] = "if"; return p },
		"a need's arguments": func(p, i, c *api.Module) *api.Module {
			p.Face.Needs[0].Sig.Args = slices.Repeat([]string{"int"}, 7)
			return p
		},
		"no yields":       func(p, i, c *api.Module) *api.Module { return both(i, func(s *api.Sig) { s.Result = "" }) },
		"a bad argument":  func(p, i, c *api.Module) *api.Module { return both(p, func(s *api.Sig) { s.Args[0] = "" }) },
		"a long argument": func(p, i, c *api.Module) *api.Module { return both(p, func(s *api.Sig) { s.Args[0] = long }) },
		"a bad result":    func(p, i, c *api.Module) *api.Module { return both(p, func(s *api.Sig) { s.Result = "int " }) },
		"seven arguments": func(p, i, c *api.Module) *api.Module {
			p.Routines[0].Params = seven
			return both(p, func(s *api.Sig) { s.Args = slices.Repeat([]string{"int"}, 7) })
		},
		"seven signals":            func(p, i, c *api.Module) *api.Module { return both(p, func(s *api.Sig) { s.Signals = seven }) },
		"signals in another order": func(p, i, c *api.Module) *api.Module { return both(p, func(s *api.Sig) { slices.Reverse(s.Signals) }) },
		"signals alike":            func(p, i, c *api.Module) *api.Module { return both(p, func(s *api.Sig) { s.Signals[1] = "x" }) },
		"a word as a signal":       func(p, i, c *api.Module) *api.Module { return both(p, func(s *api.Sig) { s.Signals[1] = "yield" }) },
		"a procedure that yields":  func(p, i, c *api.Module) *api.Module { return both(p, func(s *api.Sig) { s.Iter = true }) },
		"an iterator that returns": func(p, i, c *api.Module) *api.Module { return both(i, func(s *api.Sig) { s.Iter = false }) },
	} {
		p, i, c := goodModules(t)
		m := *change(&p, &i, &c)
		if e := tree.Check(m); e != api.ErrTree {
			t.Errorf("%s: %d", what, e)
		}
		if s, e := tree.Print([]api.Module{m}); s != "" || e != api.ErrTree {
			t.Errorf("%s: %q, %d", what, s, e)
		}
	}
	p, i, c := goodModules(t)
	if e := tree.Check(*manyRoutines(20)(&p, &i, &c)); e != api.OK {
		t.Errorf("20 routines: %d", e)
	}
}

// manyRoutines gives a cluster so many routines.
func manyRoutines(n int) func(p, i, c *api.Module) *api.Module {
	return func(p, i, c *api.Module) *api.Module {
		for len(c.Routines) < n {
			r := c.Routines[2]
			r.Name += string(rune('a' + len(c.Routines)))
			c.Routines = append(c.Routines, r)
		}
		return c
	}
}

func TestNilAndEmptyAreTheSame(t *testing.T) {
	p, _, _ := goodModules(t)
	p.Face.Needs = []api.Need{{Op: "a", Sig: api.Sig{Args: []string{}, Signals: []string{}}}}
	p.Routines[0] = api.Routine{Name: "p", Sig: api.Sig{Args: []string{}, Signals: []string{}}, Params: []string{}, Nodes: []api.Node{{Kind: api.StSeq, Kids: []int{}}}}
	p.Face.Ops = []api.Op{{Name: "p"}}
	if e := tree.Check(p); e != api.OK {
		t.Errorf("R3: %d", e)
	}
	if s := mustPrint(t, []api.Module{p}); s != lines("proc p[t]() where t has a: proc() is", "end") {
		t.Errorf("R3: %q", s)
	}
	if l, e := tree.Graft([]api.Node{{Kind: api.StSeq, Kids: []int{}}}, 0, []api.Node{}); len(l) > 0 || e != api.ErrTree {
		t.Errorf("R3: %v, %d", l, e)
	}
}
