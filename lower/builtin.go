package lower

import (
	"slices"
	"strings"

	"argus/api"
	"argus/kind"
)

// builtIn is an operation that is built in: the kind of its type, its name without that of a part, the instruction that does it, and the signal of that, if it is a Try.
type builtIn struct {
	of     uint8
	name   string
	op     uint8
	signal string
}

// A quotient of ints within the limits is never beyond them, so that TryDiv and TryMod have one signal.
var builtIns = [...]builtIn{
	{api.TypInt, "add", api.TryAdd, "overflow"},
	{api.TypInt, "sub", api.TrySub, "overflow"},
	{api.TypInt, "mul", api.TryMul, "overflow"},
	{api.TypInt, "div", api.TryDiv, "zerodivide"},
	{api.TypInt, "mod", api.TryMod, "zerodivide"},
	{api.TypInt, "lt", api.InsLt, ""},
	{api.TypInt, "le", api.InsLe, ""},
	{api.TypInt, "equal", api.InsEq, ""},

	{api.TypBool, "and", api.InsAnd, ""},
	{api.TypBool, "or", api.InsOr, ""},
	{api.TypBool, "not", api.InsNot, ""},
	{api.TypBool, "equal", api.InsEq, ""},

	{api.TypNull, "equal", api.InsEq, ""},

	{api.TypArray, "new", api.InsNew, ""},
	{api.TypArray, "size", api.InsSize, ""},
	{api.TypArray, "addh", api.TryAddh, "overflow"},
	{api.TypArray, "remh", api.TryRemh, "bounds"},
	{api.TypArray, "fetch", api.TryFetch, "bounds"},
	{api.TypArray, "store", api.TryStore, "bounds"},
	{api.TypArray, "equal", api.InsEq, ""},

	{api.TypRecord, "make", api.InsMake, ""},
	{api.TypRecord, "get_", api.InsGet, ""},
	{api.TypRecord, "set_", api.InsSet, ""},
	{api.TypRecord, "equal", api.InsEq, ""},

	{api.TypOneof, "make_", api.InsMake, ""},
	{api.TypOneof, "is_", api.InsTag, ""},
	{api.TypOneof, "equal", api.InsEq, ""},
}

// split divides the name of an operation into what it does and the name of a part, which is empty if it names none.
func split(op string) (verb, part string) {
	at := strings.IndexByte(op, '_') + 1
	if at == 0 {
		return op, ""
	}
	return op[:at], op[at:]
}

// find returns an operation of a kind of types, if there is one with this name.
func find(of uint8, name string) (builtIn, bool) {
	for _, b := range builtIns {
		if b.of == of && b.name == name {
			return b, true
		}
	}
	return builtIn{}, false
}

// partOf returns the index of a part of a record or a oneof, or gives up.
func partOf(t, name string) int {
	parts, _ := kind.Parts(t)
	at := slices.IndexFunc(parts, func(p api.Part) bool { return p.Name == name })
	if at < 0 {
		panic(missing{api.ErrPart})
	}
	return at
}
