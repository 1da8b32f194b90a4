// Package tree is layer 2: it reads modules from their texts, writes them in one canonical way, and takes bodies apart.
package tree

import (
	"strings"

	"argus/api"
	"argus/token"
)

// Parse returns the modules of a source.
func Parse(src string) ([]api.Module, api.Fault) {
	p, f := newParser(src)
	if f != (api.Fault{}) {
		return nil, f
	}
	var l []api.Module
	var lines []int
	f = attempt(func() {
		for p.next() != theEnd {
			lines = append(lines, p.tokens[p.at].Line)
			m := p.module()
			l = append(l, m)
		}
	})
	if f != (api.Fault{}) {
		return nil, f
	}
	if len(l) > api.MaxModules {
		return nil, api.Fault{Err: api.ErrLimit}
	}
	for i, m := range l {
		if e := Check(m); e != api.OK {
			return nil, api.Fault{Err: e, At: lines[i]}
		}
	}
	return l, api.Fault{}
}

// ParseExpr returns the nodes of an expression that stands alone.
func ParseExpr(src string) ([]api.Node, api.Fault) {
	p, f := newParser(src)
	if f != (api.Fault{}) {
		return nil, f
	}
	f = attempt(func() {
		p.expr()
		p.finish()
	})
	if f != (api.Fault{}) {
		return nil, f
	}
	if !isExprTree(p.nodes) {
		return nil, api.Fault{Err: api.ErrTree, At: 1}
	}
	return p.nodes, api.Fault{}
}

// attempt calls what may panic with a fault, and returns the fault.
func attempt(do func()) (f api.Fault) {
	defer func() {
		if fault, ok := recover().(api.Fault); ok {
			f = fault
		}
	}()
	do()
	return api.Fault{}
}

// What stands for tokens that are no words and no signs: no token has these texts.
const (
	theEnd   = ""
	aName    = "NAME"
	aNumber  = "NUMBER"
	typeName = "t"
)

// parser reads tokens one by one; nodes are those of the body, or of the expression, that is being read.
type parser struct {
	tokens []api.Token
	at     int
	nodes  []api.Node
	mayFollow
}

func newParser(src string) (*parser, api.Fault) {
	tokens, f := token.Scan(src)
	if f != (api.Fault{}) {
		return nil, f
	}
	p := &parser{tokens: tokens}
	p.mayFollow = p.followers()
	return p, api.Fault{}
}

// peek returns what a token is: the text of a word or a sign, or what stands for the others.
func (p *parser) peek(ahead int) string {
	i := p.at + ahead
	if i >= len(p.tokens) {
		return theEnd
	}
	switch t := p.tokens[i]; t.Kind {
	case api.TokName:
		return aName
	case api.TokNumber:
		return aNumber
	default:
		return t.Text
	}
}

func (p *parser) next() string { return p.peek(0) }

// fail gives up at the next token.
func (p *parser) fail() {
	line := 1
	switch n := len(p.tokens); {
	case p.at < n:
		line = p.tokens[p.at].Line
	case n > 0:
		line = p.tokens[n-1].Line
	}
	panic(api.Fault{Err: api.ErrParse, At: line})
}

// take steps over a token that has to be there.
func (p *parser) take(what string) {
	if p.next() != what {
		p.fail()
	}
	p.at++
}

// finish gives up unless all tokens have been read.
func (p *parser) finish() {
	if p.next() != theEnd {
		p.fail()
	}
}

// have steps over a token if it is there.
func (p *parser) have(what string) bool {
	if p.next() != what {
		return false
	}
	p.at++
	return true
}

func (p *parser) name() string {
	p.take(aName)
	return p.tokens[p.at-1].Text
}

// text returns the tokens from one on, up to the next one, without blanks.
func (p *parser) text(from int) string {
	var b strings.Builder
	for _, t := range p.tokens[from:p.at] {
		b.WriteString(t.Text)
	}
	return b.String()
}

// list reads at least one of what the grammar repeats, with a separator between.
func list[T any](p *parser, separator string, one func() T) []T {
	l := []T{one()}
	for p.have(separator) {
		x := one()
		l = append(l, x)
	}
	return l
}

// inParentheses reads a list in parentheses, which may be empty.
func inParentheses[T any](p *parser, one func() T) []T {
	p.take("(")
	if p.have(")") {
		return nil
	}
	l := list(p, ",", one)
	p.take(")")
	return l
}

// typ reads a type, and returns its text.
func (p *parser) typ() string {
	from := p.at
	p.skipType()
	return p.text(from)
}

// skipType makes no text: types may be nested deeply.
func (p *parser) skipType() {
	switch p.next() {
	case "int", "bool", "null":
		p.at++
	case "array":
		p.at++
		p.skipArgument()
	case "record", "oneof":
		p.at++
		p.take("[")
		list(p, ",", p.skipPart)
		p.take("]")
	case "?":
		p.at++
		p.takeParameter()
	case aName:
		p.at++
		if p.next() == "[" {
			p.skipArgument()
		}
	default:
		p.fail()
	}
}

func (p *parser) skipArgument() {
	p.take("[")
	p.skipType()
	p.take("]")
}

func (p *parser) skipPart() string {
	name := p.name()
	p.take(":")
	p.skipType()
	return name
}

// takeParameter steps over the name that a type parameter always has.
func (p *parser) takeParameter() {
	if p.next() != aName || p.tokens[p.at].Text != typeName {
		p.fail()
	}
	p.at++
}
