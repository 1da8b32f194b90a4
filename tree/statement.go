package tree

import "argus/api"

// mayFollow is what tokens may follow at a place, and how what they begin is read.
type mayFollow struct {
	statements map[string]func() int
	operators  map[string]bool
	exprs      map[string]bool
}

func (p *parser) followers() mayFollow {
	f := mayFollow{
		statements: map[string]func() int{
			"var": p.variable, "put": p.put, "if": p.branch, "while": p.while, "for": p.loop, "return": p.giveBack,
			"yield": p.yield, "signal": p.signal, "break": p.leave, "begin": p.except, "tagcase": p.choice,
		},
		operators: make(map[string]bool, len(operators)),
		exprs:     map[string]bool{"not": true},
	}
	for _, op := range operators {
		f.operators[op] = true
	}
	for _, first := range primaries {
		f.exprs[first] = true
		f.statements[first] = p.simple
	}
	return f
}

// add appends a node, and returns its index.
func (p *parser) add(n api.Node) int {
	p.nodes = append(p.nodes, n)
	return p.last()
}

// last returns the index of the last node: the root of what was read last.
func (p *parser) last() int { return len(p.nodes) - 1 }

// block reads statements, and returns their StSeq.
func (p *parser) block() int {
	var kids []int
	if p.statements[p.next()] != nil {
		kids = list(p, ";", p.statement)
	}
	return p.add(api.Node{Kind: api.StSeq, Kids: kids})
}

func (p *parser) statement() int {
	read := p.statements[p.next()]
	if read == nil {
		p.fail()
	}
	return read()
}

// simple reads a statement that begins with a primary: a call, or what is set.
func (p *parser) simple() int {
	switch x := p.operand(); x.form {
	case callForm:
		return p.add(api.Node{Kind: api.StDo, Kids: []int{p.last()}})
	case nameForm, placeForm:
		return p.set()
	}
	p.fail()
	return 0
}

// set reads the rest of a statement that sets what was read last; the node of that becomes the statement.
func (p *parser) set() int {
	p.take(":=")
	n := p.nodes[p.last()]
	p.nodes = p.nodes[:p.last()]
	e := p.expr()
	n.Kids = append(n.Kids, e)
	switch n.Kind {
	case api.ExIndex:
		n.Kind = api.StStore
	case api.ExField:
		n.Kind = api.StField
	default:
		n.Kind = api.StSet
	}
	return p.add(n)
}

func (p *parser) variable() int {
	p.take("var")
	x := p.param()
	p.take(":=")
	e := p.expr()
	return p.add(api.Node{Kind: api.StVar, Name: x.Name, Type: x.Type, Kids: []int{e}})
}

func (p *parser) put() int {
	p.take("put")
	e := p.expr()
	return p.add(api.Node{Kind: api.StPut, Kids: []int{e}})
}

func (p *parser) yield() int {
	p.take("yield")
	e := p.expr()
	return p.add(api.Node{Kind: api.StYield, Kids: []int{e}})
}

func (p *parser) signal() int {
	p.take("signal")
	return p.add(api.Node{Kind: api.StSignal, Name: p.name()})
}

func (p *parser) leave() int {
	p.take("break")
	return p.add(api.Node{Kind: api.StBreak})
}

func (p *parser) giveBack() int {
	p.take("return")
	var kids []int
	if p.exprs[p.next()] {
		kids = []int{p.expr()}
	}
	return p.add(api.Node{Kind: api.StReturn, Kids: kids})
}

func (p *parser) while() int {
	p.take("while")
	e := p.expr()
	p.take("do")
	q := p.block()
	p.take("end")
	return p.add(api.Node{Kind: api.StWhile, Kids: []int{e, q}})
}

func (p *parser) loop() int {
	p.take("for")
	x := p.param()
	p.take("in")
	c := p.call()
	p.take("do")
	q := p.block()
	p.take("end")
	return p.add(api.Node{Kind: api.StFor, Name: x.Name, Type: x.Type, Kids: []int{c, q}})
}

func (p *parser) branch() int {
	p.take("if")
	n := p.arms()
	p.take("end")
	return n
}

// arms reads the inside of an if; what stands behind an elseif is an if that is alone in the else part.
func (p *parser) arms() int {
	e := p.expr()
	p.take("then")
	q := p.block()
	kids := []int{e, q}
	switch {
	case p.have("elseif"):
		inner := p.arms()
		other := p.add(api.Node{Kind: api.StSeq, Kids: []int{inner}})
		kids = append(kids, other)
	case p.have("else"):
		other := p.block()
		kids = append(kids, other)
	}
	return p.add(api.Node{Kind: api.StIf, Kids: kids})
}

func (p *parser) except() int {
	p.take("begin")
	q := p.block()
	kids := []int{q}
	p.take("except")
handlers:
	for {
		p.take("when")
		name := ""
		others := p.have("others")
		if !others {
			name = p.name()
		}
		p.take(":")
		body := p.block()
		kids = append(kids, p.add(api.Node{Kind: api.StWhen, Name: name, Kids: []int{body}}))
		if others || p.next() != "when" {
			break handlers
		}
	}
	p.take("end")
	return p.add(api.Node{Kind: api.StExcept, Kids: kids})
}

func (p *parser) choice() int {
	p.take("tagcase")
	e := p.expr()
	kids := []int{e}
	kids = append(kids, p.arm())
	for p.next() == "tag" {
		kids = append(kids, p.arm())
	}
	p.take("end")
	return p.add(api.Node{Kind: api.StCase, Kids: kids})
}

func (p *parser) arm() int {
	p.take("tag")
	tag := p.name()
	p.take("(")
	x := p.param()
	p.take(")")
	p.take(":")
	q := p.block()
	return p.add(api.Node{Kind: api.StArm, Name: tag, Var: x.Name, Type: x.Type, Kids: []int{q}})
}
