package tree

import (
	"strconv"

	"argus/api"
)

var (
	// operators stand between two operands.
	operators = [...]string{"+", "-", "*", "/", "mod", "<", "<=", "=", "and", "or"}
	// primaries are the tokens with which a primary begins.
	primaries = [...]string{
		aNumber, "true", "false", "nil", aName, "up", "down", "(",
		"int", "bool", "null", "array", "record", "oneof", "?",
	}
)

// form is how an operand was written; its nodes do not tell, since parentheses make none.
type form uint8

const (
	otherForm form = iota
	nameForm
	placeForm
	callForm
	typeForm
)

// operand is what was read as a primary. Between brackets behind a name it may be a type as well, or a type alone (typeForm), until a later token tells; its last node is then no root.
type operand struct {
	form
	isType bool
}

// expr reads an expression, and returns its root.
func (p *parser) expr() int {
	return p.value(p.exprOrType())
}

// primary reads an operand that is a value, and returns its root.
func (p *parser) primary() int {
	return p.value(p.operand())
}

// value gives up on a type alone: it would have to go on with an operation.
func (p *parser) value(x operand) int {
	if x.form == typeForm {
		p.fail()
	}
	return p.last()
}

// exprOrType reads what stands between brackets behind a name: an expression, or a type, or what can be both.
func (p *parser) exprOrType() operand {
	if p.have("not") {
		e := p.primary()
		p.add(api.Node{Kind: api.ExOp, Name: "not", Kids: []int{e}})
		return operand{}
	}
	x := p.operand()
	op := p.next()
	if x.form == typeForm || !p.operators[op] {
		return x
	}
	p.at++
	a := p.last()
	b := p.primary()
	p.add(api.Node{Kind: api.ExOp, Name: op, Kids: []int{a, b}})
	return operand{}
}

// operand reads a primary as far as it goes.
func (p *parser) operand() operand {
	from, mark := p.at, len(p.nodes)
	x := p.first()
more:
	for {
		switch next := p.next(); {
		case next == "$" && x.isType:
			p.nodes = p.nodes[:mark]
			p.operation(p.text(from))
			x = operand{form: callForm}
		case next == "[" && x.form != typeForm:
			x = p.index(x)
		case next == "." && x.form != typeForm:
			p.field()
			x = operand{form: placeForm}
		default:
			break more
		}
	}
	return x
}

// first reads the front of a primary: what is not made of a shorter primary.
func (p *parser) first() operand {
	switch next := p.next(); next {
	case aNumber:
		n, _ := strconv.Atoi(p.tokens[p.at].Text)
		p.literal(api.Node{Kind: api.ExInt, N: n})
	case "true":
		p.literal(api.Node{Kind: api.ExBool, N: 1})
	case "false":
		p.literal(api.Node{Kind: api.ExBool})
	case "nil":
		p.literal(api.Node{Kind: api.ExNil})
	case "up":
		p.convert(api.ExUp)
	case "down":
		p.convert(api.ExDown)
	case "(":
		p.bracketed("(", ")")
	case aName:
		if p.isModuleCall() {
			p.moduleCall()
			return operand{form: callForm}
		}
		p.literal(api.Node{Kind: api.ExVar, Name: p.tokens[p.at].Text})
		return operand{form: nameForm, isType: true}
	default:
		p.skipType()
		return operand{form: typeForm, isType: true}
	}
	return operand{}
}

// literal adds the node of a single token.
func (p *parser) literal(n api.Node) {
	p.at++
	p.add(n)
}

func (p *parser) convert(kind uint8) {
	p.at++
	e := p.bracketed("(", ")")
	p.add(api.Node{Kind: kind, Kids: []int{e}})
}

func (p *parser) bracketed(left, right string) int {
	p.take(left)
	e := p.expr()
	p.take(right)
	return e
}

// index reads an index of what was read last; a name with a type between the brackets is a type.
func (p *parser) index(x operand) operand {
	a := p.last()
	inner := operand{}
	if x.form == nameForm {
		p.take("[")
		inner = p.exprOrType()
		p.take("]")
	} else {
		p.bracketed("[", "]")
	}
	if inner.form == typeForm {
		return inner
	}
	i := p.last()
	p.add(api.Node{Kind: api.ExIndex, Kids: []int{a, i}})
	return operand{form: placeForm, isType: inner.isType}
}

func (p *parser) field() {
	e := p.last()
	p.take(".")
	p.add(api.Node{Kind: api.ExField, Name: p.name(), Kids: []int{e}})
}

// call reads a call where nothing else can stand.
func (p *parser) call() int {
	if p.isModuleCall() {
		return p.moduleCall()
	}
	return p.operation(p.typ())
}

func (p *parser) isModuleCall() bool {
	behind := p.peek(1)
	return p.next() == aName && (behind == "(" || behind == "{")
}

func (p *parser) moduleCall() int {
	n := api.Node{Kind: api.ExCall, Name: p.name()}
	if p.have("{") {
		n.Type = p.typ()
		p.take("}")
	}
	n.Kids = inParentheses(p, p.expr)
	return p.add(n)
}

// operation reads a call of an operation behind the type that has it.
func (p *parser) operation(owner string) int {
	p.take("$")
	n := api.Node{Kind: api.ExCall, Name: p.operationName(), Var: owner}
	n.Kids = inParentheses(p, p.expr)
	return p.add(n)
}

func (p *parser) operationName() string {
	from := p.at
	switch p.next() {
	case "mod", "and", "or", "not":
		p.at++
	default:
		p.name()
		if p.have("_") {
			p.name()
		}
	}
	return p.text(from)
}
