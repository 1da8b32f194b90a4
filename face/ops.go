package face

import (
	"slices"
	"strings"

	"argus/api"
	"argus/kind"
)

// subject is a type in a scope whose operations are looked for.
type subject struct {
	scope
	text string
}

// operations are those of a type, with the parameter where its argument is still to be put in.
type operations struct {
	list []api.Op
	arg  string
}

// opsOf returns the operations of a type: none if it is not good.
func (s scope) opsOf(t string) operations {
	if s.good(t) != api.OK {
		return operations{}
	}
	makers := [...]func(subject) []api.Op{
		api.TypInt:    subject.ofInt,
		api.TypBool:   subject.ofBool,
		api.TypNull:   subject.ofNull,
		api.TypArray:  subject.ofArray,
		api.TypRecord: subject.ofRecord,
		api.TypOneof:  subject.ofOneof,
		api.TypName:   subject.ofName,
		api.TypParam:  subject.ofParam,
	}
	n, _ := kind.Kind(t)
	arg, _, _ := kind.Arg(t)
	return operations{makers[n](subject{s, t}), arg}
}

// sig returns the signature of the operation with a name.
func (o operations) sig(name string) (api.Sig, api.Errno) {
	for _, x := range o.list {
		if x.Name == name {
			return put(x.Sig, o.arg)
		}
	}
	return api.Sig{}, api.ErrOp
}

// all returns the operations with the argument put in.
func (o operations) all() ([]api.Op, api.Errno) {
	l := make([]api.Op, len(o.list))
	for i, x := range o.list {
		sig, e := put(x.Sig, o.arg)
		if e != api.OK {
			return nil, e
		}
		l[i] = api.Op{Name: x.Name, Sig: sig}
	}
	return l, api.OK
}

// cloned returns a signature in new memory.
func cloned(s api.Sig) api.Sig {
	s.Args = slices.Clone(s.Args)
	s.Signals = slices.Clone(s.Signals)
	return s
}

// put returns a signature in new memory, with an argument in the place of the parameter unless it is empty.
func put(s api.Sig, arg string) (api.Sig, api.Errno) {
	s = cloned(s)
	if arg == "" {
		return s, api.OK
	}
	e := api.OK
	for i, t := range s.Args {
		if s.Args[i], e = kind.With(t, arg); e != api.OK {
			return api.Sig{}, e
		}
	}
	if s.Result != "" {
		if s.Result, e = kind.With(s.Result, arg); e != api.OK {
			return api.Sig{}, e
		}
	}
	return s, api.OK
}

// routine returns an operation that signals nothing; its result is empty if there is none.
func routine(name, result string, args ...string) api.Op {
	return api.Op{Name: name, Sig: api.Sig{Args: args, Result: result}}
}

// signalling returns an operation that may also end with a signal.
func signalling(signal string, o api.Op) api.Op {
	o.Sig.Signals = []string{signal}
	return o
}

// joined returns an operation's name that is put together of names.
func joined(names ...string) string { return strings.Join(names, "_") }

func (subject) ofInt() []api.Op {
	var l []api.Op
	for _, name := range []string{"add", "sub", "mul"} {
		l = append(l, signalling("overflow", routine(name, "int", "int", "int")))
	}
	for _, name := range []string{"div", "mod"} {
		l = append(l, signalling("zerodivide", routine(name, "int", "int", "int")))
	}
	for _, name := range []string{"equal", "le", "lt"} {
		l = append(l, routine(name, "bool", "int", "int"))
	}
	return l
}

func (subject) ofBool() []api.Op {
	return []api.Op{
		routine("and", "bool", "bool", "bool"),
		routine("equal", "bool", "bool", "bool"),
		routine("or", "bool", "bool", "bool"),
		routine("not", "bool", "bool"),
	}
}

func (subject) ofNull() []api.Op {
	return []api.Op{routine("equal", "bool", "null", "null")}
}

// ofArray has the parameter in the place of the argument, as the operations of clusters have.
func (subject) ofArray() []api.Op {
	const own, part = "array[?t]", "?t"
	return []api.Op{
		signalling("overflow", routine("addh", "", own, part)),
		routine("equal", "bool", own, own),
		signalling("bounds", routine("fetch", part, own, "int")),
		routine("new", own),
		signalling("bounds", routine("remh", part, own)),
		routine("size", "int", own),
		signalling("bounds", routine("store", "", own, "int", part)),
	}
}

func (s subject) ofRecord() []api.Op {
	l := []api.Op{routine("equal", "bool", s.text, s.text)}
	parts, _ := kind.Parts(s.text)
	var types []string
	for _, p := range parts {
		types = append(types, p.Type)
		l = append(l,
			routine(joined("get", p.Name), p.Type, s.text),
			routine(joined("set", p.Name), "", s.text, p.Type))
	}
	return append(l, routine("make", s.text, types...))
}

func (s subject) ofOneof() []api.Op {
	l := []api.Op{routine("equal", "bool", s.text, s.text)}
	parts, _ := kind.Parts(s.text)
	for _, p := range parts {
		l = append(l,
			routine(joined("is", p.Name), "bool", s.text),
			routine(joined("make", p.Name), s.text, p.Type))
	}
	return l
}

func (s subject) ofName() []api.Op {
	name, _ := kind.Base(s.text)
	f, _ := s.cluster(name)
	return f.Ops
}

func (s subject) ofParam() []api.Op {
	var l []api.Op
	for _, n := range s.needs {
		l = append(l, api.Op{Name: n.Op, Sig: n.Sig})
	}
	return l
}
