package poly

import (
	"slices"
	"strconv"

	"argus/api"
	"argus/kind"
)

// names returns the names of ascending instances in the program that has just them.
func (l *library) names(texts []string) map[string]string {
	next := l.freeNames()
	names := map[string]string{}
	for _, text := range texts {
		names[text] = text
		if l.instance(text).arg != "" {
			names[text] = next()
		}
	}
	return names
}

// freeNames returns what returns one new name after the other.
func (l *library) freeNames() func() string {
	n := 0
	return func() string {
	search:
		for {
			n++
			name := "i" + strconv.Itoa(n)
			for _, f := range l.Faces {
				if f.Name == name {
					continue search
				}
			}
			return name
		}
	}
}

// mono returns the program of ascending instances that are closed.
func (l *library) mono(texts []string) api.Program {
	names := l.names(texts)
	byName := map[string]*instance{}
	for text, name := range names {
		byName[name] = l.instance(text)
	}
	var p api.Program
	for _, name := range sorted(byName) {
		r := renamed{byName[name], name, byName[name].turner(names)}
		p.Faces = append(p.Faces, r.newFace())
		p.Reps = append(p.Reps, r.turn(r.rep))
		for _, c := range r.cores {
			p.Cores = append(p.Cores, r.newCore(c))
		}
	}
	return p
}

// turner returns what turns the types in the module of an instance into those of the program that has the names.
func (i *instance) turner(names map[string]string) func(t string) string {
	turned := map[string]string{"": ""}
	var turn func(t string) string
	turn = func(t string) string {
		// A type with new names is never longer than before, so it can be made.
		switch of, _ := kind.Kind(t); of {
		case api.TypName:
			name, isThere := names[t]
			if !isThere {
				// What is called is no instance, since a need's signature is too long.
				panic(tooDeep{})
			}
			return name
		case api.TypArray:
			arg, _, _ := kind.Arg(t)
			t, _ = kind.Array(turn(arg))
		case api.TypRecord:
			t, _ = kind.Record(turnedParts(t, turn))
		case api.TypOneof:
			t, _ = kind.Oneof(turnedParts(t, turn))
		}
		return t
	}
	return func(t string) string {
		if _, isKnown := turned[t]; !isKnown {
			turned[t] = turn(i.with(t))
		}
		return turned[t]
	}
}

func turnedParts(t string, turn func(t string) string) []api.Part {
	parts, _ := kind.Parts(t)
	for i := range parts {
		parts[i].Type = turn(parts[i].Type)
	}
	return parts
}

// renamed is an instance with its new name, and what turns its types.
type renamed struct {
	*instance
	name string
	turn func(t string) string
}

func (r renamed) newFace() api.Face {
	f := api.Face{Name: r.name, Kind: r.face.Kind}
	for _, o := range r.face.Ops {
		// The one operation of a procedure or an iterator has the name of its module.
		if f.Kind != api.ModCluster {
			o.Name = r.name
		}
		f.Ops = append(f.Ops, api.Op{Name: o.Name, Sig: r.newSig(o.Sig)})
	}
	return f
}

func (r renamed) newCore(c api.Core) api.Core {
	if c.Owner == "" {
		c.Name = r.name
	} else {
		c.Owner = r.name
	}
	c.Sig = r.newSig(c.Sig)
	c.Slots = r.newTypes(c.Slots)
	c.Nodes = slices.Clone(c.Nodes)
	for i, n := range c.Nodes {
		n.Type, n.Var = r.turn(n.Type), r.turn(n.Var)
		n.Kids = slices.Clone(n.Kids)
		c.Nodes[i] = n
	}
	return c
}

func (r renamed) newSig(s api.Sig) api.Sig {
	return api.Sig{Iter: s.Iter, Args: r.newTypes(s.Args), Result: r.turn(s.Result), Signals: slices.Clone(s.Signals)}
}

func (r renamed) newTypes(l []string) []string {
	l = slices.Clone(l)
	for i, t := range l {
		l[i] = r.turn(t)
	}
	return l
}
