package face_test

import (
	"math/rand/v2"
	"slices"
	"strings"

	"argus/api"
	"argus/kind"
)

// maker makes faces by chance, the same in each run.
type maker struct {
	*rand.Rand
	// clusters have the names of clusters, and whether each has a parameter.
	clusters map[string]bool
}

func newMaker(seed uint64) *maker {
	return &maker{rand.New(rand.NewPCG(seed, 4)), map[string]bool{"a": false, "b": true, "c": true, "d": true, "e": false}}
}

func pick[T any](m *maker, l ...T) T { return l[m.IntN(len(l))] }

// typ makes a type of at most so many levels, open or closed.
func (m *maker) typ(levels int, isOpen bool) string {
	for {
		if s := m.part(levels, isOpen); kind.Check(s) == api.OK {
			return s
		}
	}
}

func (m *maker) part(levels int, isOpen bool) string {
	if isOpen && m.IntN(3) == 0 {
		return "?t"
	}
	if levels <= 1 {
		return pick(m, "int", "int", "bool", "null", "a", "e")
	}
	switch m.IntN(7) {
	case 0:
		return pick(m, "int", "bool", "null", "nowhere", "b", "a[int]", "p")
	case 1, 2:
		return "array[" + m.part(levels-1, isOpen) + "]"
	case 3:
		return pick(m, "record", "oneof") + "[l:" + m.part(levels-1, isOpen) + ",r:" + m.part(levels-1, isOpen) + "]"
	}
	name := pick(m, "a", "b", "c", "d", "e")
	if !m.clusters[name] {
		return name
	}
	return name + "[" + m.part(levels-1, isOpen) + "]"
}

// need makes a signature that many types have.
func (m *maker) need(own string) string {
	l := []string{"equal proc(R,R) returns bool", "equal proc(R,R) returns bool", "lt proc(R,R) returns bool", "new proc() returns R", "size proc(R) returns int", "all iter(R) yields int signals(no)", "both proc(R,array[R]) returns record[l:R,r:R]", "other proc(R) signals(no,yes)", "not proc(R) returns R"}
	return strings.ReplaceAll(pick(m, l...), "R", own)
}

// needs makes needs with different names in order.
func (m *maker) needs(most int) []api.Need {
	byName := map[string]api.Need{}
	for range m.IntN(most + 1) {
		n := need(m.need("?t"))
		if m.IntN(8) == 0 {
			n.Sig.Args = append(n.Sig.Args, m.typ(2, true))
		}
		byName[n.Op] = n
	}
	delete(byName, "not")
	return sorted(byName)
}

func sorted[T any](m map[string]T) []T {
	var names []string
	for name := range m {
		names = append(names, name)
	}
	slices.Sort(names)
	var l []T
	for _, name := range names {
		l = append(l, m[name])
	}
	return l
}

// cluster makes a cluster some of whose operations are those that needs ask for.
func (m *maker) cluster(name string) api.Face {
	f := api.Face{Name: name, Kind: api.ModCluster, Param: m.clusters[name]}
	own := name
	if f.Param {
		own += "[?t]"
		f.Needs = m.needs(2)
	}
	byName := map[string]api.Op{"main": m.op("main", f.Param)}
	for range m.IntN(6) {
		o := op(m.need(own))
		byName[o.Name] = o
	}
	delete(byName, "not")
	f.Ops = sorted(byName)
	m.Shuffle(len(f.Ops), func(i, j int) { f.Ops[i], f.Ops[j] = f.Ops[j], f.Ops[i] })
	return f
}

// op makes an operation of any types.
func (m *maker) op(name string, isOpen bool) api.Op {
	o := api.Op{Name: name, Sig: api.Sig{Iter: m.IntN(3) == 0}}
	for range m.IntN(3) {
		o.Sig.Args = append(o.Sig.Args, m.typ(1+m.IntN(3), isOpen))
	}
	if o.Sig.Iter || m.IntN(2) == 0 {
		o.Sig.Result = m.typ(1+m.IntN(3), isOpen)
	}
	o.Sig.Signals = pick(m, nil, []string{"no"}, []string{"no", "yes"})
	return o
}

// faces makes clusters, and a procedure or an iterator behind them; all are as said.
func (m *maker) faces() []api.Face {
	var l []api.Face
	for _, name := range []string{"a", "b", "c", "d", "e"} {
		if m.IntN(8) > 0 {
			l = append(l, m.cluster(name))
		}
	}
	f := api.Face{Name: "p", Param: m.IntN(2) == 0}
	if f.Param {
		f.Needs = m.needs(2)
	}
	f.Ops = []api.Op{m.op("p", f.Param)}
	f.Kind = api.ModProc
	if f.Ops[0].Sig.Iter {
		f.Kind = api.ModIter
	}
	return append(l, f)
}

// library makes faces that are one: each type that is not good is another one in the end.
func (m *maker) library() []api.Face {
	l := m.faces()
	for {
		i, e := plain{faces: l}.library()
		if e == api.OK {
			return l
		}
		name := l[i].Name
		if name == "p" {
			l = append(l[:i:i], m.procedure(l[:i]))
			continue
		}
		l[i] = m.cluster(name)
	}
}

// procedure makes a face whose types are good beside some faces.
func (m *maker) procedure(beside []api.Face) api.Face {
	for {
		f := api.Face{Name: "p", Kind: api.ModProc, Param: true, Needs: m.needs(2), Ops: []api.Op{m.op("p", true)}}
		f.Ops[0].Sig.Iter = false
		if _, e := (plain{faces: append(slices.Clone(beside), f)}).library(); e == api.OK {
			return f
		}
	}
}

// good makes a good type in a scope.
func (m *maker) good(p plain, levels int) string {
	for {
		if t := m.typ(levels, p.param); p.good(t) == api.OK {
			return t
		}
	}
}
