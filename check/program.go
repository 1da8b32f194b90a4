package check

import (
	"slices"
	"strings"

	"argus/api"
	"argus/face"
	"argus/kind"
	"argus/token"
)

// CheckProgram returns ErrProgram for a program that is not valid.
func CheckProgram(p api.Program) (e api.Errno) {
	defer func() {
		if recover() != nil {
			e = api.ErrProgram
		}
	}()
	_, wrong := face.CheckAll(p.Faces)
	require(wrong == api.OK && len(p.Reps) == len(p.Faces))
	require(!hasCircle(p))
	all := newLibrary(p.Faces)
	rest := p.Cores
	for i, f := range p.Faces {
		own := coresOf(f, rest)
		rest = rest[len(own):]
		checkModule(all, f, p.Reps[i], own)
	}
	require(len(rest) == 0)
	return api.OK
}

// require gives up unless something is right about a program; where it is wrong is not asked.
func require(isValid bool) { place{}.demand(isValid, api.ErrProgram) }

func hasCircle(p api.Program) bool {
	reps := map[string]string{}
	var names []string
	for i, f := range p.Faces {
		reps[f.Name] = p.Reps[i]
		names = append(names, f.Name)
	}
	return firstCircle(names, reps) >= 0
}

// coresOf returns the cores at the front of a list that are those of a face.
func coresOf(f api.Face, l []api.Core) []api.Core {
	if f.Kind != api.ModCluster {
		require(len(l) > 0 && l[0].Owner == "")
		return l[:1]
	}
	n := 0
	for n < len(l) && l[n].Owner == f.Name {
		n++
	}
	require(n <= api.MaxRoutines)
	return l[:n]
}

// checkModule asks for a face with its representation and its cores.
func checkModule(l *library, f api.Face, rep string, cores []api.Core) {
	require(len(cores) >= len(f.Ops))
	var hidden []api.Op
	for _, c := range cores[len(f.Ops):] {
		hidden = append(hidden, api.Op{Name: c.Name, Sig: c.Sig})
	}
	s := newScope(l, f, rep, hidden)
	if f.Kind == api.ModCluster {
		require(s.good(rep) == api.OK)
	} else {
		require(rep == "")
	}
	met := map[string]bool{}
	for i, c := range cores {
		require(!met[c.Name])
		met[c.Name] = true
		if i < len(f.Ops) {
			require(c.Name == f.Ops[i].Name && equalSigs(c.Sig, f.Ops[i].Sig))
		} else {
			s.checkHidden(c)
		}
		s.checkCore(c)
	}
}

// checkHidden asks for a name and a signature as those of an operation, with good types.
func (s *scope) checkHidden(c api.Core) {
	alone := api.Face{Name: c.Name, Kind: api.ModProc, Param: true, Ops: []api.Op{{Name: c.Name, Sig: c.Sig}}}
	if c.Sig.Iter {
		alone.Kind = api.ModIter
	}
	require(face.Check(alone) == api.OK)
	for _, t := range typesOf(c.Sig) {
		require(s.good(t) == api.OK)
	}
}

func (s *scope) checkCore(c api.Core) {
	args := len(c.Sig.Args)
	require(args <= len(c.Slots) && len(c.Slots) <= api.MaxSlots && slices.Equal(c.Slots[:args], c.Sig.Args))
	for _, t := range c.Slots {
		require(s.good(t) == api.OK)
	}
	require(len(c.Nodes) <= api.MaxCore && isBodyTree(c.Nodes))
	b := newBody(s, place{}, c.Sig)
	b.slots = c.Slots
	around := contexts(c.Nodes, b.isParameter, setSlot)
	for i, n := range c.Nodes {
		require(b.hasFields(n))
		b.here = around[i]
		b.add(n)
		require(b.nodes[i].Type == n.Type)
	}
}

// setSlot returns the slot of a node that sets one.
func setSlot(n api.Node) int { return n.N }

// isBodyTree reports whether nodes are in postorder, with kids as their kinds have them, and a StSeq as the root.
func isBodyTree(l []api.Node) bool {
	var roots []int
	for i, n := range l {
		first := len(roots) - len(n.Kids)
		if first < 0 || !slices.Equal(roots[first:], n.Kids) || !hasKids(l, n) {
			return false
		}
		roots = append(roots[:first], i)
	}
	return len(roots) == 1 && l[roots[0]].Kind == api.StSeq
}

// hasKids reports whether the kids of a node are of one of the shapes of its kind.
func hasKids(l []api.Node, n api.Node) bool {
	kids := make([]byte, len(n.Kids))
	for i, k := range n.Kids {
		kids[i] = letter(l[k])
	}
	return slices.ContainsFunc(shapes(n.Kind), func(shape string) bool { return fits(string(kids), shape) })
}

// letter tells what a node can be as a kid: c a call, e another expression, q a StSeq, w a StWhen with a name and o one without, a a StArm, s another statement.
func letter(n api.Node) byte {
	switch n.Kind {
	case api.ExCall:
		return 'c'
	case api.StSeq:
		return 'q'
	case api.StArm:
		return 'a'
	case api.StWhen:
		if n.Name == "" {
			return 'o'
		}
		return 'w'
	}
	if n.Kind < api.StSeq {
		return 'e'
	}
	return 's'
}

// shapes returns what the kids of a node can be, as letters: a star stands behind one that comes any number of times, and calls are among the expressions. Kinds that programs do not have are without shapes.
func shapes(kind uint8) []string {
	switch kind {
	case api.ExInt, api.ExBool, api.ExNil, api.ExVar, api.StSignal, api.StBreak:
		return []string{""}
	case api.ExCall:
		return []string{"e*"}
	case api.ExUp, api.ExDown, api.StSet, api.StYield, api.StPut:
		return []string{"e"}
	case api.StSeq:
		return []string{"s*"}
	case api.StDo:
		return []string{"c"}
	case api.StIf:
		return []string{"eq", "eqq"}
	case api.StWhile:
		return []string{"eq"}
	case api.StFor:
		return []string{"cq"}
	case api.StReturn:
		return []string{"", "e"}
	case api.StExcept:
		return []string{"qww*", "qw*o"}
	case api.StWhen, api.StArm:
		return []string{"q"}
	case api.StCase:
		return []string{"eaa*"}
	}
	return nil
}

// fits reports whether letters are of a shape.
func fits(kids, shape string) bool {
	for shape != "" {
		may := shape[:1]
		shape = shape[1:]
		if may == "e" {
			may = "ec"
		}
		if after, isStar := strings.CutPrefix(shape, "*"); isStar {
			kids, shape = strings.TrimLeft(kids, may), after
			continue
		}
		if kids == "" || !strings.Contains(may, kids[:1]) {
			return false
		}
		kids = kids[1:]
	}
	return kids == ""
}

// fields are those of a node beside its kind, its type and its kids.
type fields struct {
	name, owner string
	n           int
}

// hasFields reports whether a node has the fields that its kind has in programs, and no others.
func (b *body) hasFields(n api.Node) bool {
	has := fields{n.Name, n.Var, n.N}
	switch n.Kind {
	case api.ExInt:
		return has == fields{n: n.N} && 0 <= n.N && n.N <= api.MaxInt
	case api.ExBool:
		return has == fields{n: n.N} && (n.N == 0 || n.N == 1)
	case api.ExVar, api.StSet, api.StFor:
		return has == fields{n: n.N} && b.isSlot(n.N)
	case api.ExCall:
		return b.isCall(n)
	case api.StSignal:
		return has == fields{name: n.Name} && token.IsName(n.Name)
	case api.StWhen:
		return has == fields{name: n.Name} && (n.Name == "" || token.IsName(n.Name))
	case api.StArm:
		return has == fields{name: n.Name, n: n.N} && b.isSlot(n.N)
	}
	return has == fields{}
}

func (b *body) isSlot(n int) bool { return 0 <= n && n < len(b.slots) }

// isCall reports whether a call is of an operation of a good type, or of a module, perhaps with an argument that is good.
func (b *body) isCall(n api.Node) bool {
	if n.N == 0 {
		return b.good(n.Var) == api.OK
	}
	of, _ := kind.Kind(n.Var)
	arg, hasArg, _ := kind.Arg(n.Var)
	return n.N == 1 && n.Name == "" && of == api.TypName && (!hasArg || b.good(arg) == api.OK)
}
