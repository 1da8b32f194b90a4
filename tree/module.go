package tree

import (
	"slices"

	"argus/api"
)

// module reads a module.
func (p *parser) module() api.Module {
	if p.have("cluster") {
		return p.cluster()
	}
	m := api.Module{}
	m.Face.Kind = api.ModProc
	isIter := p.isIter()
	if isIter {
		m.Face.Kind = api.ModIter
	}
	m.Face.Name = p.name()
	m.Face.Param = p.hasParameter()
	params, sig := p.head(isIter)
	m.Face.Needs = p.where()
	m.Face.Ops = []api.Op{{Name: m.Face.Name, Sig: cloneSig(sig)}}
	m.Routines = []api.Routine{{Name: m.Face.Name, Sig: sig, Params: params, Nodes: p.body()}}
	return m
}

// cluster reads a cluster behind its first word.
func (p *parser) cluster() api.Module {
	m := api.Module{}
	m.Face.Kind = api.ModCluster
	m.Face.Name = p.name()
	m.Face.Param = p.hasParameter()
	p.take("is")
	names := list(p, ",", p.name)
	m.Face.Needs = p.where()
	p.take("rep")
	p.take("=")
	m.Rep = p.typ()
	m.Routines = []api.Routine{p.routine()}
	for !p.have("end") {
		r := p.routine()
		m.Routines = append(m.Routines, r)
	}
	m.Face.Ops = opsOf(names, m.Routines)
	return m
}

// opsOf gives the names of a cluster's operations the signatures of its first routines; whether these have the names is asked later.
func opsOf(names []string, routines []api.Routine) []api.Op {
	ops := make([]api.Op, len(names))
	for i, name := range names {
		ops[i].Name = name
		if i < len(routines) {
			ops[i].Sig = cloneSig(routines[i].Sig)
		}
	}
	return ops
}

func cloneSig(s api.Sig) api.Sig {
	s.Args = slices.Clone(s.Args)
	s.Signals = slices.Clone(s.Signals)
	return s
}

// routine reads a routine of a cluster.
func (p *parser) routine() api.Routine {
	isIter := p.isIter()
	r := api.Routine{Name: p.name()}
	r.Params, r.Sig = p.head(isIter)
	r.Nodes = p.body()
	return r
}

// isIter steps over the word with which a routine begins.
func (p *parser) isIter() bool {
	if p.have("iter") {
		return true
	}
	p.take("proc")
	return false
}

// hasParameter steps over the brackets that say so.
func (p *parser) hasParameter() bool {
	if !p.have("[") {
		return false
	}
	p.takeParameter()
	p.take("]")
	return true
}

// param reads a parameter of a routine.
func (p *parser) param() api.Part {
	x := api.Part{Name: p.name()}
	p.take(":")
	x.Type = p.typ()
	return x
}

// head reads the parameters and the signature of a routine.
func (p *parser) head(isIter bool) ([]string, api.Sig) {
	var names []string
	sig := api.Sig{Iter: isIter}
	for _, x := range inParentheses(p, p.param) {
		names = append(names, x.Name)
		sig.Args = append(sig.Args, x.Type)
	}
	sig.Result, sig.Signals = p.results(isIter)
	return names, sig
}

// results reads what stands behind the arguments of a signature.
func (p *parser) results(isIter bool) (result string, signals []string) {
	switch {
	case isIter:
		p.take("yields")
		result = p.typ()
	case p.have("returns"):
		result = p.typ()
	}
	if p.have("signals") {
		p.take("(")
		signals = list(p, ",", p.name)
		p.take(")")
	}
	return result, signals
}

// where reads the needs of a module, if there are any.
func (p *parser) where() []api.Need {
	if !p.have("where") {
		return nil
	}
	p.takeParameter()
	p.take("has")
	return list(p, ",", p.need)
}

func (p *parser) need() api.Need {
	x := api.Need{Op: p.name()}
	p.take(":")
	x.Sig.Iter = p.isIter()
	x.Sig.Args = inParentheses(p, p.typ)
	x.Sig.Result, x.Sig.Signals = p.results(x.Sig.Iter)
	return x
}

// body reads the rest of a routine behind its head, and returns the nodes.
func (p *parser) body() []api.Node {
	p.nodes = nil
	p.take("is")
	p.block()
	p.take("end")
	return p.nodes
}
