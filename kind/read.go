package kind

import (
	"slices"
	"strings"

	"argus/api"
	"argus/token"
)

// parameter is the type parameter; its first byte begins nothing else in a type.
const parameter = "?t"

// text is a type as it is written.
type text string

// front returns what stands ahead of the first bracket: all of it if there is none.
func (t text) front() string {
	front, _, _ := strings.Cut(string(t), "[")
	return front
}

func (t text) isOpen() bool { return strings.Contains(string(t), parameter) }

// typ is a type that was read: kids are its argument, or the types of its parts, which have names.
type typ struct {
	text
	kind  uint8
	names []string
	kids  []typ
}

func (t typ) level() int {
	most := 0
	for _, kid := range t.kids {
		most = max(most, kid.level())
	}
	return most + 1
}

// inside yields the types inside a type in the order in which they begin.
func (t typ) inside(yield func(typ) bool) {
	rest := []typ{t}
	for len(rest) > 0 {
		x := rest[0]
		if !yield(x) {
			return
		}
		rest = slices.Concat(x.kids, rest[1:])
	}
}

// kindsOfFronts has the fronts of all types but those with names.
func kindsOfFronts() map[string]uint8 {
	return map[string]uint8{
		"int": api.TypInt, "bool": api.TypBool, "null": api.TypNull,
		"array": api.TypArray, "record": api.TypRecord, "oneof": api.TypOneof,
		parameter: api.TypParam,
	}
}

// read takes a text apart, or says why it is no type.
func read(s string) (t typ, e api.Errno) {
	if len(s) > api.MaxType {
		return typ{}, api.ErrLimit
	}
	defer func() {
		if wrong, ok := recover().(api.Errno); ok {
			t, e = typ{}, wrong
		}
	}()
	kinds := kindsOfFronts()
	c := &cursor{src: s}
	var next func() typ
	next = func() typ {
		from := c.at
		front := c.word()
		x := typ{kind: kinds[front]}
		if token.IsName(front) {
			x.kind = api.TypName
		}
		switch {
		case x.kind == 0:
			panic(api.ErrForm)
		case x.kind == api.TypArray || x.kind == api.TypName && c.sees("["):
			x.kids = c.argument(next)
		case x.kind == api.TypRecord || x.kind == api.TypOneof:
			x.names, x.kids = c.parts(next)
		}
		x.text = text(s[from:c.at])
		return x
	}
	t = next()
	switch {
	case c.at < len(s):
		return typ{}, api.ErrForm
	case t.level() > api.MaxLevel:
		return typ{}, api.ErrLimit
	}
	return t, api.OK
}

// cursor is a place in a text up to which it was read.
type cursor struct {
	src string
	at  int
}

// word steps over all bytes that are no signs, and returns them.
func (c *cursor) word() string {
	rest := c.src[c.at:]
	n := strings.IndexAny(rest, "[],:")
	if n < 0 {
		n = len(rest)
	}
	c.at += n
	return rest[:n]
}

func (c *cursor) sees(sign string) bool { return strings.HasPrefix(c.src[c.at:], sign) }

// have steps over a sign if it is there.
func (c *cursor) have(sign string) bool {
	if !c.sees(sign) {
		return false
	}
	c.at += len(sign)
	return true
}

// take steps over a sign that has to be there.
func (c *cursor) take(sign string) {
	if !c.have(sign) {
		panic(api.ErrForm)
	}
}

// argument reads a type in brackets.
func (c *cursor) argument(next func() typ) []typ {
	c.take("[")
	kid := next()
	c.take("]")
	return []typ{kid}
}

// parts reads parts in brackets: their names and their types.
func (c *cursor) parts(next func() typ) (names []string, kids []typ) {
	c.take("[")
	for more := true; more; more = c.have(",") {
		name := c.word()
		c.take(":")
		kid := next()
		names = append(names, name)
		kids = append(kids, kid)
	}
	c.take("]")
	if !mayStand(names) {
		panic(api.ErrForm)
	}
	return names, kids
}

// mayStand reports whether parts in a type may have these names in this order.
func mayStand(names []string) bool {
	for i, name := range names {
		if !token.IsName(name) || i > 0 && names[i-1] >= name {
			return false
		}
	}
	return len(names) <= api.MaxFields
}
