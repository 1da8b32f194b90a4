package check_test

import (
	"slices"
	"strings"
	"testing"

	"argus/api"
	"argus/check"
)

// yard is a program whose one core has nodes of all kinds that programs have.
const yard = `cluster k[t] is f, h
  rep = record[v:?t]
  proc f(x: k[?t], n: int, b: bool) returns int signals (bad) is
    var o: oneof[a:int,b:bool] := oneof[a:int,b:bool]$make_a(n);
    var z: null := nil;
    x := up(down(x));
    if b then put 1 else put 2 end;
    while false do break end;
    for i: int in up2(n) do k[?t]$g(x); n := i end;
    tagcase o tag a(v: int): put v end;
    begin signal bad except when bad: put 3 when others: end;
    return ident{int}(n + 1)
  end
  iter h(x: k[?t]) yields k[?t] is yield x; return end
  proc g(x: k[?t]) is return end
end
iter up2(n: int) yields int is yield n end
proc ident[t](x: ?t) returns ?t is return x end
`

// change is a program that was made wrong, or right in another way.
type change struct {
	what string
	do   func(p *api.Program)
}

// at returns the first node of a kind in the core k$f.
func at(p *api.Program, kind uint8) *api.Node {
	for i, n := range p.Cores[1].Nodes {
		if n.Kind == kind {
			return &p.Cores[1].Nodes[i]
		}
	}
	return nil
}

// yardProgram has the cores ident, k f, k h, k g, up2.
func yardProgram(t *testing.T) api.Program { return programOf(t, yard) }

func askChanges(t *testing.T, isValid bool, changes []change) {
	t.Helper()
	for _, x := range changes {
		p := yardProgram(t)
		x.do(&p)
		if isValid {
			askValid(t, x.what, p)
		} else {
			askInvalid(t, x.what, p)
		}
	}
}

// E2: what stands around the nodes.
func TestInvalidPrograms(t *testing.T) {
	askValid(t, "the yard", yardProgram(t))
	askChanges(t, false, []change{
		{"a face less", func(p *api.Program) { p.Faces = p.Faces[1:]; p.Reps = p.Reps[1:] }},
		{"faces in another order", func(p *api.Program) { slices.Reverse(p.Faces) }},
		{"all in another order", func(p *api.Program) { slices.Reverse(p.Faces); slices.Reverse(p.Reps); slices.Reverse(p.Cores) }},
		{"a face that is none", func(p *api.Program) { p.Faces[0].Kind = 0 }},
		{"a face of another kind", func(p *api.Program) { p.Faces[2].Kind = api.ModProc; p.Faces[2].Ops[0].Sig.Iter = false }},
		{"a face with a bad type", func(p *api.Program) { p.Faces[1].Ops[0].Sig.Args[0] = "nowhere" }},
		{"a representation less", func(p *api.Program) { p.Reps = p.Reps[:2] }},
		{"a representation more", func(p *api.Program) { p.Reps = append(p.Reps, "") }},
		{"the representation of a procedure", func(p *api.Program) { p.Reps[0] = "int" }},
		{"the representation of an iterator", func(p *api.Program) { p.Reps[2] = "int" }},
		{"no representation", func(p *api.Program) { p.Reps[1] = "" }},
		{"another representation", func(p *api.Program) { p.Reps[1] = "record[v:int]" }},
		{"a bad representation", func(p *api.Program) { p.Reps[1] = "nowhere" }},
		{"itself", func(p *api.Program) { p.Reps[1] = "k[?t]" }},
		{"no cores", func(p *api.Program) { p.Cores = nil }},
		{"the first core less", func(p *api.Program) { p.Cores = p.Cores[1:] }},
		{"an operation less", func(p *api.Program) { p.Cores = slices.Delete(p.Cores, 1, 2) }},
		{"a hidden one less", func(p *api.Program) { p.Cores = slices.Delete(p.Cores, 3, 4) }},
		{"the last core less", func(p *api.Program) { p.Cores = p.Cores[:4] }},
		{"the last core twice", func(p *api.Program) { p.Cores = append(p.Cores, p.Cores[4]) }},
		{"a core more", func(p *api.Program) { c := p.Cores[4]; c.Name = "more"; p.Cores = append(p.Cores, c) }},
		{"cores in another order", func(p *api.Program) { slices.Reverse(p.Cores) }},
		{"operations in another order", func(p *api.Program) { p.Cores[1], p.Cores[2] = p.Cores[2], p.Cores[1] }},
		{"the hidden one ahead", func(p *api.Program) { p.Cores[2], p.Cores[3] = p.Cores[3], p.Cores[2] }},
		{"a hidden one twice", func(p *api.Program) { p.Cores = slices.Insert(p.Cores, 4, p.Cores[3]) }},
		{"a hidden one with the name of an operation", func(p *api.Program) { p.Cores = slices.Insert(p.Cores, 4, p.Cores[2]) }},
		{"no owner", func(p *api.Program) { p.Cores[3].Owner = "" }},
		{"another owner", func(p *api.Program) { p.Cores[3].Owner = "up2" }},
		{"an owner that there is not", func(p *api.Program) { p.Cores[1].Owner = "l" }},
		{"the owner of a procedure", func(p *api.Program) { p.Cores[0].Owner = "ident" }},
		{"the owner of the last", func(p *api.Program) { p.Cores[4].Owner = "k" }},
		{"another name", func(p *api.Program) { p.Cores[0].Name = "other" }},
		{"another name of an operation", func(p *api.Program) { p.Cores[1].Name = "other" }},
		{"another name of a hidden one", func(p *api.Program) { p.Cores[3].Name = "other" }},
		{"no name of a hidden one", func(p *api.Program) { p.Cores[3].Name = "" }},
		{"a reserved word", func(p *api.Program) { p.Cores[3].Name = "mod" }},
		{"a long name", func(p *api.Program) { p.Cores[3].Name = "thirteenmuchz" }},
		{"a name of two", func(p *api.Program) { p.Cores[3].Name = "a_b" }},
		{"other signals", func(p *api.Program) { p.Cores[1].Sig.Signals = nil }},
		{"other arguments", func(p *api.Program) { p.Cores[1].Sig.Args = p.Cores[1].Sig.Args[:2] }},
		{"another result", func(p *api.Program) { p.Cores[1].Sig.Result = "" }},
		{"no iterator", func(p *api.Program) { p.Cores[4].Sig.Iter = false }},
		{"a hidden one with a bad type", func(p *api.Program) { p.Cores[3].Sig.Args[0] = "l"; p.Cores[3].Slots[0] = "l" }},
		{"a hidden one with a bad result", func(p *api.Program) { p.Cores[3].Sig.Result = "l" }},
		{"a hidden one with signals that descend", func(p *api.Program) { p.Cores[3].Sig.Signals = []string{"b", "a"} }},
		{"a hidden one with a signal twice", func(p *api.Program) { p.Cores[3].Sig.Signals = []string{"a", "a"} }},
		{"a hidden one with seven signals", func(p *api.Program) { p.Cores[3].Sig.Signals = strings.Split("abcdefg", "") }},
		{"a hidden one with no signal", func(p *api.Program) { p.Cores[3].Sig.Signals = []string{"mod"} }},
		{"a hidden iterator without a result", func(p *api.Program) { p.Cores[3].Sig.Iter = true }},
		{"a slot less", func(p *api.Program) { p.Cores[1].Slots = p.Cores[1].Slots[:6] }},
		{"slots less than arguments", func(p *api.Program) { p.Cores[1].Slots = p.Cores[1].Slots[:2] }},
		{"no slots", func(p *api.Program) { p.Cores[4].Slots = nil }},
		{"another slot", func(p *api.Program) { p.Cores[1].Slots[0] = "k[int]" }},
		{"another slot of a variable", func(p *api.Program) { p.Cores[1].Slots[3] = "int" }},
		{"a bad slot", func(p *api.Program) { p.Cores[1].Slots = append(p.Cores[1].Slots, "l") }},
		{"an open slot", func(p *api.Program) { p.Cores[4].Slots = append(p.Cores[4].Slots, "?t") }},
		{"an empty slot", func(p *api.Program) { p.Cores[1].Slots = append(p.Cores[1].Slots, "") }},
		{"61 slots", func(p *api.Program) { p.Cores[4].Slots = slices.Repeat([]string{"int"}, 61) }},
		{"no nodes", func(p *api.Program) { p.Cores[3].Nodes = nil }},
		{"no root", func(p *api.Program) { p.Cores[3].Nodes = p.Cores[3].Nodes[:1] }},
		{"two roots", func(p *api.Program) { p.Cores[3].Nodes = append(p.Cores[3].Nodes, api.Node{Kind: api.StSeq}) }},
		{"another root", func(p *api.Program) {
			p.Cores[3].Nodes = append(p.Cores[3].Nodes, api.Node{Kind: api.StWhen, Kids: []int{1}})
		}},
	})
}

// E2: what is valid, though Check makes no such program.
func TestOtherValidPrograms(t *testing.T) {
	askChanges(t, true, []change{
		{"more slots", func(p *api.Program) { p.Cores[1].Slots = append(p.Cores[1].Slots, "bool", "k[?t]") }},
		{"60 slots", func(p *api.Program) { p.Cores[4].Slots = slices.Repeat([]string{"int"}, 60) }},
		{"another hidden one", func(p *api.Program) { c := p.Cores[3]; c.Name = "a"; p.Cores = slices.Insert(p.Cores, 4, c) }},
		{"a hidden one with signals", func(p *api.Program) { p.Cores[3].Sig.Signals = []string{"a", "b"} }},
		{"a slot that is set in one part alone", func(p *api.Program) {
			p.Cores[3].Slots = append(p.Cores[3].Slots, "int")
			p.Cores[3].Nodes = []api.Node{{Kind: api.ExBool, Type: "bool"}, {Kind: api.ExInt, Type: "int"}, {Kind: api.StSet, N: 1, Kids: []int{1}}, {Kind: api.StSeq, Kids: []int{2}}, {Kind: api.ExInt, Type: "int"}, {Kind: api.StSet, N: 1, Kids: []int{4}}, {Kind: api.ExVar, N: 1, Type: "int"}, {Kind: api.StPut, Kids: []int{6}}, {Kind: api.StSeq, Kids: []int{5, 7}}, {Kind: api.StIf, Kids: []int{0, 3, 8}}, {Kind: api.StSeq, Kids: []int{9}}}
		}},
		{"an operation that no source can name", func(p *api.Program) {
			c := api.Node{Kind: api.ExCall, Name: "is_a", Var: "oneof[a:int,b:bool]", Type: "bool", Kids: []int{1}}
			p.Cores[4].Nodes = []api.Node{{Kind: api.ExInt, Type: "int"}, {Kind: api.ExCall, Name: "make_a", Var: "oneof[a:int,b:bool]", Type: "oneof[a:int,b:bool]", Kids: []int{0}}, c, {Kind: api.StDo, Kids: []int{2}}, {Kind: api.StSeq, Kids: []int{3}}}
		}},
		{"empty slices", func(p *api.Program) { p.Faces[1].Needs = []api.Need{}; p.Cores[0].Nodes[0].Kids = []int{} }},
	})
}

// E2: nodes whose fields are others.
func TestInvalidNodes(t *testing.T) {
	kinds := []uint8{api.ExInt, api.ExBool, api.ExNil, api.ExVar, api.ExCall, api.ExUp, api.ExDown, api.StSeq, api.StSet, api.StDo, api.StIf, api.StWhile, api.StFor, api.StReturn, api.StSignal, api.StExcept, api.StWhen, api.StBreak, api.StCase, api.StArm, api.StPut}
	for _, k := range kinds {
		what := kindNames[k] + ": "
		askChanges(t, false, []change{
			{what + "the type", func(p *api.Program) { at(p, k).Type += "int" }},
			{what + "N", func(p *api.Program) { at(p, k).N += 5000000000 }},
			{what + "N below 0", func(p *api.Program) { at(p, k).N = -1 }},
			{what + "the owner", func(p *api.Program) { at(p, k).Var += "x[" }},
			{what + "another owner", func(p *api.Program) { at(p, k).Var += "int" }},
			{what + "the name", func(p *api.Program) { at(p, k).Name += "." }},
			{what + "a kid more", func(p *api.Program) { n := at(p, k); n.Kids = append(n.Kids, 0) }},
			{what + "no kind", func(p *api.Program) { at(p, k).Kind = 0 }},
			{what + "a great kind", func(p *api.Program) { at(p, k).Kind = 255 }},
		})
		if len(at(new(yardProgram(t)), k).Kids) > 0 {
			askChanges(t, false, []change{{what + "a kid less", func(p *api.Program) { n := at(p, k); n.Kids = n.Kids[1:] }}})
		}
		for _, other := range []uint8{api.ExOp, api.ExIndex, api.ExField, api.StVar, api.StStore, api.StField, 38, 19, 11} {
			askChanges(t, false, []change{{what + "sugar", func(p *api.Program) { at(p, k).Kind = other }}})
		}
	}
	for _, k := range []uint8{api.ExInt, api.ExBool, api.ExNil, api.ExUp, api.ExDown, api.StSeq, api.StSet, api.StDo, api.StIf, api.StWhile, api.StFor, api.StReturn, api.StExcept, api.StBreak, api.StCase, api.StPut} {
		askChanges(t, false, []change{{kindNames[k] + " with a name", func(p *api.Program) { at(p, k).Name = "a" }}})
	}
	for _, k := range []uint8{api.ExNil, api.ExUp, api.ExDown, api.StSeq, api.StDo, api.StIf, api.StWhile, api.StReturn, api.StSignal, api.StExcept, api.StWhen, api.StBreak, api.StCase, api.StPut} {
		askChanges(t, false, []change{{kindNames[k] + " with a number", func(p *api.Program) { at(p, k).N = 1 }}})
	}
}

// bodied is a program of one procedure p(a: int, b: bool) and an iterator i, whose nodes are given.
func bodied(nodes ...api.Node) api.Program {
	p := api.Program{Reps: []string{"", ""}}
	iter := api.Sig{Iter: true, Result: "int"}
	proc := api.Sig{Args: []string{"int", "bool"}}
	p.Faces = []api.Face{{Name: "i", Kind: api.ModIter, Ops: []api.Op{{Name: "i", Sig: iter}}}, {Name: "p", Kind: api.ModProc, Ops: []api.Op{{Name: "p", Sig: proc}}}}
	p.Cores = []api.Core{{Name: "i", Sig: iter, Nodes: []api.Node{{Kind: api.StSeq}}}, {Name: "p", Sig: proc, Slots: []string{"int", "bool", "int", "bool", "oneof[a:int,b:int]"}, Nodes: nodes}}
	return p
}

func node(kind uint8, n int, kids ...int) api.Node { return api.Node{Kind: kind, N: n, Kids: kids} }

func named(kind uint8, name string, n int, kids ...int) api.Node {
	return api.Node{Kind: kind, Name: name, N: n, Kids: kids}
}

func typed(kind uint8, t string, n int, kids ...int) api.Node {
	return api.Node{Kind: kind, Type: t, N: n, Kids: kids}
}

// call is a call of an operation.
func call(owner, name, t string, kids ...int) api.Node {
	return api.Node{Kind: api.ExCall, Name: name, Var: owner, Type: t, Kids: kids}
}

// E2: bodies by themselves: whether they are valid.
func TestBodies(t *testing.T) {
	one, a, b, i := typed(api.ExInt, "int", 1), typed(api.ExVar, "int", 0), typed(api.ExVar, "bool", 1), api.Node{Kind: api.ExCall, N: 1, Var: "i", Type: "int"}
	seq := func(kids ...int) api.Node { return node(api.StSeq, 0, kids...) }
	const o = "oneof[a:int,b:int]"
	makeA := func(kid int) api.Node { return call(o, "make_a", o, kid) }
	for _, x := range []struct {
		what    string
		isValid bool
		nodes   []api.Node
	}{
		{"nothing", true, []api.Node{seq()}},
		{"a parameter", true, []api.Node{a, node(api.StPut, 0, 0), seq(1)}},
		{"a variable that is not set", false, []api.Node{typed(api.ExVar, "int", 2), node(api.StPut, 0, 0), seq(1)}},
		{"one that is set", true, []api.Node{one, node(api.StSet, 2, 0), typed(api.ExVar, "int", 2), node(api.StPut, 0, 2), seq(1, 3)}},
		{"by itself", false, []api.Node{typed(api.ExVar, "int", 2), node(api.StSet, 2, 0), seq(1)}},
		{"one that is set behind", false, []api.Node{typed(api.ExVar, "int", 2), node(api.StPut, 0, 0), one, node(api.StSet, 2, 2), seq(1, 3)}},
		{"one that is set inside", false, []api.Node{b, one, node(api.StSet, 2, 1), seq(2), node(api.StIf, 0, 0, 3), typed(api.ExVar, "int", 2), node(api.StPut, 0, 5), seq(4, 6)}},
		{"one that is set outside", true, []api.Node{one, node(api.StSet, 2, 0), b, typed(api.ExVar, "int", 2), node(api.StPut, 0, 3), seq(4), node(api.StWhile, 0, 2, 5), seq(1, 6)}},
		{"of another type", false, []api.Node{b, node(api.StSet, 2, 0), seq(1)}},
		{"a slot that there is not", false, []api.Node{one, node(api.StSet, 5, 0), seq(1)}},
		{"a use of a slot that there is not", false, []api.Node{typed(api.ExVar, "int", 5), node(api.StPut, 0, 0), seq(1)}},
		{"a loop", true, []api.Node{i, typed(api.ExVar, "int", 2), node(api.StPut, 0, 1), seq(2), node(api.StFor, 2, 0, 3), seq(4)}},
		{"behind a loop", false, []api.Node{i, seq(), node(api.StFor, 2, 0, 1), typed(api.ExVar, "int", 2), node(api.StPut, 0, 3), seq(2, 4)}},
		{"two loops with one slot", true, []api.Node{i, i, seq(), node(api.StFor, 2, 1, 2), seq(3), node(api.StFor, 2, 0, 4), seq(5)}},
		{"a loop into a parameter", true, []api.Node{i, a, node(api.StPut, 0, 1), seq(2), node(api.StFor, 0, 0, 3), seq(4)}},
		{"a loop into a bool", false, []api.Node{i, seq(), node(api.StFor, 3, 0, 1), seq(2)}},
		{"a loop over no call", false, []api.Node{one, seq(), node(api.StFor, 2, 0, 1), seq(2)}},
		{"a loop over a procedure", false, []api.Node{one, one, call("int", "add", "int", 0, 1), seq(), node(api.StFor, 2, 2, 3), seq(4)}},
		{"an iterator as a value", false, []api.Node{i, node(api.StPut, 0, 0), seq(1)}},
		{"an iterator as a statement", false, []api.Node{i, node(api.StDo, 0, 0), seq(1)}},
		{"a call as a statement", true, []api.Node{one, one, call("int", "add", "int", 0, 1), node(api.StDo, 0, 2), seq(3)}},
		{"a value as a statement", false, []api.Node{one, node(api.StDo, 0, 0), seq(1)}},
		{"a value in a sequence", false, []api.Node{one, seq(0)}},
		{"a sequence in a sequence", false, []api.Node{seq(), seq(0)}},
		{"a handler in a sequence", false, []api.Node{seq(), named(api.StWhen, "a", 0, 0), seq(1)}},
		{"an arm in a sequence", false, []api.Node{seq(), named(api.StArm, "a", 2, 0), seq(1)}},
		{"a statement as a value", false, []api.Node{node(api.StBreak, 0), node(api.StPut, 0, 0), seq(1)}},
		{"one argument", false, []api.Node{one, call("int", "add", "int", 0), node(api.StDo, 0, 1), seq(2)}},
		{"an argument of another type", false, []api.Node{one, b, call("int", "add", "int", 0, 1), node(api.StDo, 0, 2), seq(3)}},
		{"seven arguments", false, []api.Node{one, one, one, one, one, one, one, call("int", "add", "int", 0, 1, 2, 3, 4, 5, 6), node(api.StDo, 0, 7), seq(8)}},
		{"another type of a call", false, []api.Node{one, one, call("int", "add", "bool", 0, 1), node(api.StDo, 0, 2), seq(3)}},
		{"no type of a call", false, []api.Node{one, one, call("int", "add", "", 0, 1), node(api.StDo, 0, 2), seq(3)}},
		{"no owner of a call", false, []api.Node{one, one, call("", "add", "int", 0, 1), node(api.StDo, 0, 2), seq(3)}},
		{"a call of no operation", false, []api.Node{one, one, call("int", "none", "int", 0, 1), node(api.StDo, 0, 2), seq(3)}},
		{"a call without a result as a value", false, []api.Node{a, b, {Kind: api.ExCall, N: 1, Var: "p", Kids: []int{0, 1}}, node(api.StPut, 0, 2), seq(3)}},
		{"a call of itself", true, []api.Node{a, b, {Kind: api.ExCall, N: 1, Var: "p", Kids: []int{0, 1}}, node(api.StDo, 0, 2), seq(3)}},
		{"a call with a name", false, []api.Node{a, b, {Kind: api.ExCall, N: 1, Name: "p", Var: "p", Kids: []int{0, 1}}, node(api.StDo, 0, 2), seq(3)}},
		{"a call with an argument too many", false, []api.Node{a, b, {Kind: api.ExCall, N: 1, Var: "p[int]", Kids: []int{0, 1}}, node(api.StDo, 0, 2), seq(3)}},
		{"a call of an array", false, []api.Node{{Kind: api.ExCall, N: 1, Var: "array[int]", Type: "array[int]"}, node(api.StDo, 0, 0), seq(1)}},
		{"a call of no module", false, []api.Node{{Kind: api.ExCall, N: 1, Var: "int", Type: "int"}, node(api.StDo, 0, 0), seq(1)}},
		{"a call of the number 2", false, []api.Node{a, b, {Kind: api.ExCall, N: 2, Var: "p", Kids: []int{0, 1}}, node(api.StDo, 0, 2), seq(3)}},
		{"a yield", false, []api.Node{one, node(api.StYield, 0, 0), seq(1)}},
		{"a return", true, []api.Node{node(api.StReturn, 0), seq(0)}},
		{"a return of a value", false, []api.Node{one, node(api.StReturn, 0, 0), seq(1)}},
		{"a break", false, []api.Node{node(api.StBreak, 0), seq(0)}},
		{"a break in a loop", true, []api.Node{b, node(api.StBreak, 0), seq(1), node(api.StWhile, 0, 0, 2), seq(3)}},
		{"a condition that is none", false, []api.Node{one, seq(), node(api.StWhile, 0, 0, 1), seq(2)}},
		{"a condition without anything", false, []api.Node{b, node(api.StIf, 0, 0), seq(1)}},
		{"a condition with three parts", false, []api.Node{b, seq(), seq(), seq(), node(api.StIf, 0, 0, 1, 2, 3), seq(4)}},
		{"a while with two parts", false, []api.Node{b, seq(), seq(), node(api.StWhile, 0, 0, 1, 2), seq(3)}},
		{"up outside a cluster", false, []api.Node{one, typed(api.ExUp, "p", 0, 0), node(api.StPut, 0, 1), seq(2)}},
		{"handlers", true, []api.Node{seq(), seq(), named(api.StWhen, "a", 0, 1), seq(), named(api.StWhen, "a", 0, 3), seq(), named(api.StWhen, "", 0, 5), node(api.StExcept, 0, 0, 2, 4, 6), seq(7)}},
		{"the handler of all ahead", false, []api.Node{seq(), seq(), named(api.StWhen, "", 0, 1), seq(), named(api.StWhen, "a", 0, 3), node(api.StExcept, 0, 0, 2, 4), seq(5)}},
		{"two handlers of all", false, []api.Node{seq(), seq(), named(api.StWhen, "", 0, 1), seq(), named(api.StWhen, "", 0, 3), node(api.StExcept, 0, 0, 2, 4), seq(5)}},
		{"no handler", false, []api.Node{seq(), node(api.StExcept, 0, 0), seq(1)}},
		{"nothing to handle", false, []api.Node{seq(), named(api.StWhen, "a", 0, 0), node(api.StExcept, 0, 1), seq(2)}},
		{"a handler of no name", false, []api.Node{seq(), seq(), named(api.StWhen, "mod", 0, 1), node(api.StExcept, 0, 0, 2), seq(3)}},
		{"a signal", true, []api.Node{named(api.StSignal, "a", 0), seq(0)}},
		{"a signal of no name", false, []api.Node{named(api.StSignal, "", 0), seq(0)}},
		{"a signal of another one", false, []api.Node{named(api.StSignal, "a_b", 0), seq(0)}},
		{"arms", true, []api.Node{one, makeA(0), seq(), named(api.StArm, "b", 2, 2), typed(api.ExVar, "int", 2), node(api.StPut, 0, 4), seq(5), named(api.StArm, "a", 2, 6), node(api.StCase, 0, 1, 3, 7), seq(8)}},
		{"an arm twice", false, []api.Node{one, makeA(0), seq(), named(api.StArm, "a", 2, 2), seq(), named(api.StArm, "a", 2, 4), node(api.StCase, 0, 1, 3, 5), seq(6)}},
		{"an arm of no part", false, []api.Node{one, makeA(0), seq(), named(api.StArm, "c", 2, 2), node(api.StCase, 0, 1, 3), seq(4)}},
		{"an arm of another type", false, []api.Node{one, makeA(0), seq(), named(api.StArm, "a", 3, 2), node(api.StCase, 0, 1, 3), seq(4)}},
		{"an arm with a slot that there is not", false, []api.Node{one, makeA(0), seq(), named(api.StArm, "a", 5, 2), node(api.StCase, 0, 1, 3), seq(4)}},
		{"no arm", false, []api.Node{one, makeA(0), node(api.StCase, 0, 1), seq(2)}},
		{"a case of an int", false, []api.Node{one, seq(), named(api.StArm, "a", 2, 1), node(api.StCase, 0, 0, 2), seq(3)}},
		{"the slot of an arm in another one", false, []api.Node{one, makeA(0), seq(), named(api.StArm, "b", 2, 2), typed(api.ExVar, "int", 2), node(api.StPut, 0, 4), seq(5), named(api.StArm, "a", 0, 6), node(api.StCase, 0, 1, 3, 7), seq(8)}},
		{"the greatest int", true, []api.Node{typed(api.ExInt, "int", 1000000000), node(api.StPut, 0, 0), seq(1)}},
		{"a greater int", false, []api.Node{typed(api.ExInt, "int", 1000000001), node(api.StPut, 0, 0), seq(1)}},
		{"an int below 0", false, []api.Node{typed(api.ExInt, "int", -1), node(api.StPut, 0, 0), seq(1)}},
		{"a bool of 2", false, []api.Node{typed(api.ExBool, "bool", 2), node(api.StSet, 1, 0), seq(1)}},
		{"a kid behind", false, []api.Node{node(api.StPut, 0, 1), one, seq(0)}},
		{"itself as a kid", false, []api.Node{node(api.StSeq, 0, 0)}},
		{"a kid below 0", false, []api.Node{node(api.StPut, 0, -1), seq(0)}},
		{"kids in another order", false, []api.Node{one, one, node(api.StPut, 0, 0), node(api.StPut, 0, 1), seq(2, 3)}},
		{"a kid of two", false, []api.Node{one, node(api.StPut, 0, 0), node(api.StPut, 0, 0), seq(1, 2)}},
		{"a kid of none", false, []api.Node{one, one, node(api.StPut, 0, 1), seq(2)}},
	} {
		if x.isValid {
			askValid(t, x.what, bodied(x.nodes...))
		} else {
			askInvalid(t, x.what, bodied(x.nodes...))
		}
	}
}

// long bodies: a routine of 400 nodes at most can come to have 800.
func TestManyNodes(t *testing.T) {
	repeated := func(times int, more ...api.Node) api.Program {
		var nodes []api.Node
		root := node(api.StSeq, 0)
		for range times {
			nodes = append(nodes, typed(api.ExInt, "int", 1), node(api.StPut, 0, len(nodes)))
			root.Kids = append(root.Kids, len(nodes)-1)
		}
		for _, n := range more {
			nodes = append(nodes, n)
			root.Kids = append(root.Kids, len(nodes)-1)
		}
		return bodied(append(nodes, root)...)
	}
	askValid(t, "800 nodes", repeated(399, named(api.StSignal, "a", 0)))
	askInvalid(t, "801 nodes", repeated(400))
	askInvalid(t, "many nodes", repeated(20000))
	src := "proc p(l: array[int]) is " + strings.Repeat("l[1] := 2; ", 99) + "put 1 end"
	p := programOf(t, src)
	if n := len(p.Cores[0].Nodes); n != 99*5+3 {
		t.Errorf("E1: %d nodes", n)
	}
	askValid(t, "all stores", p)
	if l, e := check.Modules(p); e != api.ErrArg || len(l) > 0 {
		t.Errorf("E5: a routine of 498 nodes: %d", e)
	}
}

// A cluster has at most 20 routines.
func TestManyCores(t *testing.T) {
	p := yardProgram(t)
	for i := range 17 {
		c := p.Cores[3]
		c.Name = "g" + string(rune('a'+i))
		p.Cores = slices.Insert(p.Cores, 4, c)
	}
	askValid(t, "20 routines", p)
	c := p.Cores[3]
	c.Name = "more"
	p.Cores = slices.Insert(p.Cores, 4, c)
	askInvalid(t, "21 routines", p)
}

func TestManyFaces(t *testing.T) {
	p := api.Program{}
	for i := range 21 {
		name := "m" + string(rune('a'+i))
		p.Faces = append(p.Faces, api.Face{Name: name, Kind: api.ModProc, Ops: []api.Op{{Name: name}}})
		p.Reps = append(p.Reps, "")
		p.Cores = append(p.Cores, api.Core{Name: name, Nodes: []api.Node{{Kind: api.StSeq}}})
	}
	askInvalid(t, "21 faces", p)
	askValid(t, "20 faces", api.Program{Faces: p.Faces[:20], Reps: p.Reps[:20], Cores: p.Cores[:20]})
}

// E2: representations of clusters that have no use of them.
func TestRepresentations(t *testing.T) {
	reps := func(l ...string) api.Program {
		p := programOf(t, "cluster a is f rep = int proc f() is end end cluster b[t] is f rep = int proc f() is end end cluster c[t] is f where t has lt: proc(?t, ?t) returns bool rep = int proc f() is end end proc d() is end")
		p.Reps = l
		return p
	}
	for _, l := range [][]string{
		{"int", "int", "int", ""}, {"b[int]", "c[int]", "?t", ""}, {"array[a]", "record[l:b[?t]]", "b[c[?t]]", ""},
	} {
		askValid(t, strings.Join(l, " "), reps(l...))
	}
	for _, l := range [][]string{
		{"a", "int", "int", ""}, {"b[int]", "a", "int", ""}, {"int", "c[int]", "b[int]", ""}, {"b[int]", "c[int]", "b[int]", ""}, {"int", "int", "c[int]", ""},
		{"nowhere", "int", "int", ""}, {"?t", "int", "int", ""}, {"int", "c[?t]", "int", ""}, {"c[bool]", "int", "int", ""}, {"d", "int", "int", ""}, {"int", "b", "int", ""}, {"int", "int", "", ""}, {"", "int", "int", ""},
		{"int", "int", "int", "int"}, {"int", "int", "int"}, {"int", "int", "int", "", ""}, {"record[b:int,a:int]", "int", "int", ""}, nil,
	} {
		askInvalid(t, strings.Join(l, " "), reps(l...))
	}
}
