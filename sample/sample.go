// Package sample makes programs by chance, for the tests of the layers. Where chance comes from is up to the caller, so that each program can be made again.
package sample

import (
	"slices"
	"strconv"
	"strings"

	"argus/api"
	"argus/check"
	"argus/tree"
)

// Chance gives numbers from 0 on that are less than n.
type Chance interface{ IntN(n int) int }

// Maker makes texts of modules that use the town, and each other. They are right, but they may have too many nodes.
type Maker struct {
	Chance
	// Routines are those that were made, with the way to call them.
	Routines []Routine
	names    int
	// of the routine that is made:
	isOpen, isIter, isPlain, inLoop bool
	own, rep, result                string
	vars                            []api.Part
}

// Routine is one that can be called: its Ref has a ?t for the parameter, if it has one (HasArg).
type Routine struct {
	Ref            string
	HasArg, IsIter bool
	Args           []string
	Result         string
	Signals        []string
}

// New returns a maker that has made nothing.
func New(c Chance) *Maker { return &Maker{Chance: c} }

// Pick returns one of some items.
func Pick[T any](c Chance, l ...T) T { return l[c.IntN(len(l))] }

// most is how often a program is made again that has too many nodes.
const most = 100

// Program makes the program of the town, some modules, and a procedure main (n: int, b: bool), with its source; the fault says what is wrong with the last one that was made, if none was right.
func (m *Maker) Program() (p api.Program, source string, f api.Fault) {
	for range most {
		source = Town + m.modules()
		l, wrong := tree.Parse(source)
		if f = wrong; f.Err != api.OK {
			continue
		}
		p, f = check.Check(l)
		return p, source, f
	}
	return p, source, f
}

func (m *Maker) modules() string {
	m.Routines = nil
	var l []string
	for range 4 {
		l = append(l, m.module())
	}
	l = append(l, m.start())
	m.setScope("", "", false)
	return strings.Join(l, "\n")
}

// setScope says where the next types and routines stand: the own type and the representation of a cluster are empty anywhere else.
func (m *Maker) setScope(own, rep string, isOpen bool) {
	m.own, m.rep, m.isOpen = own, rep, isOpen
}

func (m *Maker) fresh(front string) string {
	m.names++
	return front + strconv.Itoa(m.names)
}

// start makes a procedure with which a run can start.
func (m *Maker) start() string {
	m.setScope("", "", false)
	m.isPlain = true
	head, r := m.sig("main", false, api.Part{Name: "n", Type: "int"}, api.Part{Name: "b", Type: "bool"})
	m.isPlain = false
	return "proc main" + head + " is " + m.body(r) + " end"
}

const whereEqual = " where t has equal: proc(?t, ?t) returns bool "

// module makes a procedure, an iterator or a cluster.
func (m *Maker) module() string {
	name := m.fresh("m")
	m.setScope("", "", m.IntN(3) == 0)
	if m.isOpen && m.IntN(3) == 0 {
		return m.cluster(name)
	}
	isIter := m.IntN(3) == 0
	if !m.isOpen {
		head, r := m.sig(name, isIter)
		return word(isIter) + name + head + " is " + m.body(r) + " end"
	}
	head, r := m.sig(name+"{?t}", isIter)
	return word(isIter) + name + "[t]" + head + whereEqual + "is " + m.body(r) + " end"
}

func word(isIter bool) string {
	if isIter {
		return "iter "
	}
	return "proc "
}

func (m *Maker) cluster(name string) string {
	rep := m.Type(3)
	own := name + "[?t]"
	m.setScope(own, rep, true)
	var names, routines []string
	for i, isIter := range []bool{false, false, true} {
		op := string(rune('f' + i))
		head, r := m.sig(own+"$"+op, isIter)
		names = append(names, op)
		routines = append(routines, word(isIter)+op+head+" is "+m.body(r)+" end")
	}
	m.Routines = append(m.Routines, Routine{Ref: own + "$make", HasArg: true, Args: []string{rep}, Result: own})
	routines = append(routines, "proc make(x: "+rep+") returns "+own+" is return up(x) end")
	return "cluster " + name + "[t] is " + strings.Join(names, ", ") + ", make" + whereEqual + "rep = " + rep + " " + strings.Join(routines, " ") + " end"
}

// sig makes the front of a routine with some parameters, and further ones, and adds the routine to those that can be called.
func (m *Maker) sig(ref string, isIter bool, params ...api.Part) (string, Routine) {
	r := Routine{Ref: ref, HasArg: m.isOpen, IsIter: isIter}
	m.vars = m.params(params)
	var l []string
	for _, v := range m.vars {
		l = append(l, v.Name+": "+v.Type)
		r.Args = append(r.Args, v.Type)
	}
	if isIter || m.IntN(3) > 0 {
		r.Result = m.Type(3)
	}
	for _, s := range []string{"bounds", "high", "low", "overflow", "zerodivide"} {
		if m.IntN(2) == 0 {
			r.Signals = append(r.Signals, s)
		}
	}
	m.Routines = append(m.Routines, r)
	return "(" + strings.Join(l, ", ") + ")" + ending(r), r
}

// params adds to some parameters one of the own type, one of that in the place of the parameter, and others.
func (m *Maker) params(l []api.Part) []api.Part {
	if len(l) > 0 {
		return l
	}
	if m.own != "" {
		l = append(l, api.Part{Name: m.fresh("v"), Type: m.own})
	}
	if m.isOpen {
		l = append(l, api.Part{Name: m.fresh("v"), Type: "?t"})
	}
	for range m.IntN(3) {
		t := m.Type(3)
		l = append(l, api.Part{Name: m.fresh("v"), Type: t})
	}
	return l
}

// ending returns the text of a signature behind the parameters.
func ending(r Routine) string {
	s := ""
	switch {
	case r.IsIter:
		s = " yields " + r.Result
	case r.Result != "":
		s = " returns " + r.Result
	}
	if len(r.Signals) > 0 {
		s += " signals (" + strings.Join(r.Signals, ", ") + ")"
	}
	return s
}

// With puts an argument into what can be called.
func (r Routine) With(arg string) Routine {
	put := func(s string) string { return strings.ReplaceAll(s, "?t", arg) }
	r.Ref, r.Result, r.Args = put(r.Ref), put(r.Result), slices.Clone(r.Args)
	for i := range r.Args {
		r.Args[i] = put(r.Args[i])
	}
	return r
}
