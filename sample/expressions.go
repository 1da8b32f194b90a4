package sample

import (
	"strconv"
	"strings"
)

// callOf makes a call of a routine.
func (m *Maker) callOf(r Routine, depth int) string {
	var args []string
	for _, a := range r.Args {
		args = append(args, m.expr(a, depth))
	}
	return r.Ref + "(" + strings.Join(args, ", ") + ")"
}

// callables returns the routines that can be called, from any one on, with arguments.
func (m *Maker) callables(isIter bool) []Routine {
	var l []Routine
	from := m.IntN(len(m.Routines))
	for i := range m.Routines {
		r := m.Routines[(from+i)%len(m.Routines)]
		if r.IsIter != isIter {
			continue
		}
		if r.HasArg {
			r = r.With(m.argument())
		}
		l = append(l, r)
	}
	return l
}

// called makes a call with a result of a type (or any, if it is empty), or nothing.
func (m *Maker) called(t string, depth int) string {
	for _, r := range m.callables(false) {
		if t == "" || r.Result == t {
			return m.callOf(r, depth)
		}
	}
	return ""
}

func (m *Maker) known(t string) []string {
	var l []string
	for _, v := range m.vars {
		if v.Type == t {
			l = append(l, v.Name)
		}
	}
	return l
}

// expr makes an expression of a type.
func (m *Maker) expr(t string, depth int) string {
	if l := m.known(t); len(l) > 0 && m.IntN(5) > 1 {
		return Pick(m, l...)
	}
	if depth > 0 && m.IntN(4) == 0 {
		if s := m.called(t, depth-1); s != "" {
			return s
		}
	}
	if depth > 0 && m.IntN(6) == 0 && isSmall(t) {
		return m.taken(t, depth-1)
	}
	if depth > 0 && m.IntN(5) > 0 {
		if s := m.operated(t, depth-1); s != "" {
			return "(" + s + ")"
		}
	}
	return m.made(t, depth)
}

// taken makes an expression that takes a value out of an object.
func (m *Maker) taken(t string, depth int) string {
	switch m.IntN(5) {
	case 0:
		return "box[" + t + "]$get(" + m.expr("box["+t+"]", depth) + ")"
	case 1:
		return m.expr("record[l:"+t+",r:int]", depth) + ".l"
	case 2:
		return "list[" + t + "]$head(list[" + t + "]$cons(" + m.expr(t, depth) + ", " + m.expr("list["+t+"]", depth) + "))"
	case 3:
		return "array[" + t + "]$remh(" + m.expr("array["+t+"]", depth+1) + ")"
	}
	return m.expr("array["+t+"]", depth+1) + "[" + m.index() + "]"
}

// index makes an int that is often within the bounds of an array.
func (m *Maker) index() string {
	if m.IntN(5) > 0 {
		return m.number(1, 3)
	}
	return m.expr("int", 0)
}

// number makes one of n numbers, from low on.
func (m *Maker) number(low, n int) string { return strconv.Itoa(low + m.IntN(n)) }

// two makes an operator between two expressions of a type.
func (m *Maker) two(t string, depth int, operators ...string) string {
	return m.expr(t, depth) + " " + Pick(m, operators...) + " " + m.expr(t, depth)
}

// operated makes an expression with an operator or a call of the town, without parentheses around it, or nothing.
func (m *Maker) operated(t string, depth int) string {
	switch {
	case t == "int":
		return m.operatedInt(depth)
	case t == "bool":
		return m.operatedBool(depth)
	case t == m.own && m.own != "":
		return "up(" + m.expr(m.rep, depth) + ")"
	case t == m.rep && m.own != "":
		return "down(" + m.expr(m.own, depth) + ")"
	}
	return ""
}

func (m *Maker) operatedInt(depth int) string {
	of := m.Comparable()
	switch m.IntN(8) {
	case 0:
		return m.two("int", depth, "+", "-", "*", "/", "mod")
	case 1:
		return m.two("int", depth, "+", "-")
	case 2:
		return "say(" + m.expr("int", depth) + ")"
	case 3:
		return "least{int}(" + m.expr("int", depth) + ", 2)"
	case 4:
		return "array[" + of + "]$size(" + m.expr("array["+of+"]", depth) + ")"
	case 5:
		return "count$next(" + m.expr("count", depth) + ")"
	case 6:
		return "bag[" + of + "]$size(" + m.expr("bag["+of+"]", depth) + ")"
	}
	return m.two("int", depth, "/", "mod", "*")
}

func (m *Maker) operatedBool(depth int) string {
	of := m.Comparable()
	switch m.IntN(6) {
	case 0:
		return m.two("int", depth, "<", "<=", "=")
	case 1:
		return m.two("bool", depth, "and", "or", "=")
	case 2:
		return "not " + m.expr("bool", depth)
	case 3:
		return m.two(of, depth, "=")
	case 4:
		return "coin$heads(" + m.expr("coin", depth) + ")"
	}
	return "bag[" + of + "]$holds(" + m.expr("bag["+of+"]", depth) + ", " + m.expr(of, depth) + ")"
}

// made makes an expression that makes a value of a type.
func (m *Maker) made(t string, depth int) string {
	front, inner, _ := strings.Cut(strings.TrimSuffix(t, "]"), "[")
	switch front {
	case "int":
		return Pick(m, m.number(0, 4), m.number(0, 4), m.number(0, 4), m.number(0, 100), m.number(999999999, 2))
	case "bool":
		return Pick(m, "true", "false")
	case "null":
		return "nil"
	case "coin":
		return "coin$make(" + m.expr("bool", depth-1) + ")"
	case "count":
		return t + "$new()"
	case "box":
		return t + "$new(" + m.expr(inner, depth-1) + ")"
	}
	return m.madeOfParts(t, front, inner, depth)
}

func (m *Maker) madeOfParts(t, front, inner string, depth int) string {
	isFull := depth > 0 && isSmall(inner)
	switch {
	case front == "array" && isFull:
		return "trio{" + inner + "}(" + m.expr(inner, depth-1) + ", " + m.expr(inner, depth-1) + ")"
	case front == "bag" && isFull:
		return t + "$from(" + m.expr("array["+inner+"]", depth-1) + ")"
	case front == "array" || front == "bag":
		return t + "$new()"
	case front == "list" && isFull && m.IntN(3) > 0:
		return t + "$cons(" + m.expr(inner, depth-1) + ", " + m.expr(t, depth-1) + ")"
	case front == "list":
		return t + "$empty()"
	case front == "record":
		_, types := Divided(t)
		var l []string
		for _, x := range types {
			l = append(l, m.expr(x, depth-1))
		}
		return t + "$make(" + strings.Join(l, ", ") + ")"
	case front == "oneof":
		names, types := Divided(t)
		i := m.IntN(len(names))
		return t + "$make_" + names[i] + "(" + m.expr(types[i], depth-1) + ")"
	}
	return m.abstract(t, depth)
}

// abstract makes a value of the parameter or of a cluster that was made.
func (m *Maker) abstract(t string, depth int) string {
	if l := m.known(t); len(l) > 0 {
		return Pick(m, l...)
	}
	front, arg, hasArg := strings.Cut(strings.TrimSuffix(t, "]"), "[")
	for _, r := range m.Routines {
		if strings.HasPrefix(r.Ref, front+"[?t]$make") && hasArg {
			return m.callOf(r.With(arg), min(depth, 1)-1)
		}
	}
	// There is no value of a cluster whose make comes later: what is in an array that is empty is a signal.
	return "array[" + t + "]$new()[1]"
}
