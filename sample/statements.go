package sample

import (
	"slices"
	"strings"

	"argus/api"
)

// body makes the body of a routine.
func (m *Maker) body(r Routine) string {
	m.isIter, m.result, m.inLoop = r.IsIter, r.Result, false
	s := m.block(2)
	if r.IsIter {
		return s + "; yield " + m.expr(r.Result, 2)
	}
	if r.Result != "" && m.IntN(8) > 0 {
		return s + "; return " + m.expr(r.Result, 2)
	}
	return s
}

// inside makes a block in which more variables can be used.
func (m *Maker) inside(depth int, inLoop bool, vars ...api.Part) string {
	before, wasInLoop := m.vars, m.inLoop
	m.vars = append(slices.Clone(m.vars), vars...)
	m.inLoop = m.inLoop || inLoop
	s := m.block(depth)
	m.vars, m.inLoop = before, wasInLoop
	return s
}

func (m *Maker) block(depth int) string {
	var l []string
	for range 1 + m.IntN(2) {
		if depth > 0 && m.IntN(2) == 0 {
			l = append(l, m.nested(depth-1))
		} else {
			l = append(l, m.statement())
		}
	}
	return strings.Join(l, "; ")
}

// variable makes a variable of a type.
func (m *Maker) variable(t string) api.Part { return api.Part{Name: m.fresh("v"), Type: t} }

func (m *Maker) statement() string {
	switch m.IntN(12) {
	case 0, 1, 2:
		v := m.variable(m.Type(3))
		s := "var " + v.Name + ": " + v.Type + " := " + m.expr(v.Type, 2)
		m.vars = append(m.vars, v)
		return s
	case 3, 4:
		if len(m.vars) > 0 {
			v := Pick(m, m.vars...)
			return v.Name + " := " + m.expr(v.Type, 2)
		}
	case 5, 6, 7:
		return m.changing(m.Type(2))
	case 8:
		if s := m.called("", 1); s != "" {
			return s
		}
	case 9:
		return m.leaving()
	}
	return "put " + m.expr("int", 2)
}

// changing makes a statement that changes an object.
func (m *Maker) changing(t string) string {
	if !isSmall(t) {
		t = m.Comparable()
	}
	switch m.IntN(4) {
	case 0:
		return m.expr("array["+t+"]", 2) + "[" + m.index() + "] := " + m.expr(t, 1)
	case 1:
		return "array[" + t + "]$addh(" + m.expr("array["+t+"]", 1) + ", " + m.expr(t, 1) + ")"
	case 2:
		return "box[" + t + "]$set(" + m.expr("box["+t+"]", 1) + ", " + m.expr(t, 1) + ")"
	}
	return m.expr("record[l:"+t+",r:int]", 1) + ".l := " + m.expr(t, 1)
}

// leaving makes a statement that leaves something, or gives something.
func (m *Maker) leaving() string {
	switch m.IntN(4) {
	case 0:
		return "signal " + Pick(m, "bounds", "high", "low", "failure", "other")
	case 1:
		if m.inLoop {
			return "break"
		}
	case 2:
		if m.isIter || m.result == "" {
			return "return"
		}
		return "return " + m.expr(m.result, 1)
	}
	if m.isIter {
		return "yield " + m.expr(m.result, 1)
	}
	return "put " + m.expr("int", 1)
}

// nested makes a statement with blocks.
func (m *Maker) nested(depth int) string {
	switch m.IntN(7) {
	case 0:
		return "if " + m.expr("bool", 2) + " then " + m.inside(depth, false) + Pick(m, "", " else "+m.inside(depth, false)) + " end"
	case 1:
		v := m.variable("int")
		return "var " + v.Name + ": int := 0; while " + v.Name + " < " + m.number(0, 4) + " do " + v.Name + " := " + v.Name + " + 1; " + m.inside(depth, true, v) + " end"
	case 2:
		return "while " + m.expr("bool", 2) + " do " + m.inside(depth, true) + Pick(m, "", "; break", "; break") + " end"
	case 3, 4:
		v, over := m.loop()
		return "for " + v.Name + ": " + v.Type + " in " + over + " do " + m.inside(depth, true, v) + " end"
	case 5:
		return m.handled(depth)
	}
	return m.cased(depth)
}

// handled makes a statement with handlers.
func (m *Maker) handled(depth int) string {
	s := "begin " + m.inside(depth, false) + " except"
	for _, name := range []string{"bounds", "low", "failure"} {
		if m.IntN(2) == 0 {
			s += " when " + name + ": " + m.inside(depth, false)
		}
	}
	return s + " when " + Pick(m, "others", "zerodivide") + ": " + m.inside(depth, false) + " end"
}

// cased makes a statement that tells the parts of a oneof apart.
func (m *Maker) cased(depth int) string {
	t := "oneof[l:" + m.Type(2) + ",r:" + m.Type(1) + "]"
	names, types := Divided(t)
	s := "tagcase " + m.expr(t, 2)
	for i := range Pick(m, 1, 2, 2, 2) {
		v := m.variable(types[i])
		s += " tag " + names[i] + "(" + v.Name + ": " + v.Type + "): " + m.inside(depth, false, v)
	}
	return s + " end"
}

// loop makes a variable, and the call of an iterator.
func (m *Maker) loop() (api.Part, string) {
	switch m.IntN(4) {
	case 0:
		t := m.Comparable()
		return m.variable(t), "items{" + t + "}(" + m.expr("array["+t+"]", 1) + ")"
	case 1:
		if l := m.callables(true); len(l) > 0 {
			return m.variable(l[0].Result), m.callOf(l[0], 1)
		}
	case 2:
		t := m.Comparable()
		return m.variable(t), "list[" + t + "]$each(" + m.expr("list["+t+"]", 2) + ")"
	}
	return m.variable("int"), "upto(" + m.number(0, 3) + ", " + m.expr("int", 1) + ")"
}
