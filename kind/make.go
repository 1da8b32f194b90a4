package kind

import (
	"strings"

	"argus/api"
	"argus/token"
)

// Array returns the array with an argument.
func Array(t string) (string, api.Errno) {
	return withArgument("array", t)
}

// Named returns the type with a name and an argument, or without one if that is empty.
func Named(name, arg string) (string, api.Errno) {
	switch {
	case !token.IsName(name):
		return "", api.ErrArg
	case arg == "":
		return name, api.OK
	}
	return withArgument(name, arg)
}

func withArgument(front, arg string) (string, api.Errno) {
	if e := Check(arg); e != api.OK {
		return "", e
	}
	return inLimits(front + "[" + arg + "]")
}

// Record returns the record with some parts.
func Record(l []api.Part) (string, api.Errno) {
	return withParts("record", l)
}

// Oneof returns the oneof with some parts.
func Oneof(l []api.Part) (string, api.Errno) {
	return withParts("oneof", l)
}

func withParts(front string, l []api.Part) (string, api.Errno) {
	if e := checkParts(l); e != api.OK {
		return "", e
	}
	l = sorted(l, func(a, b api.Part) int { return strings.Compare(a.Name, b.Name) })
	parts := make([]string, len(l))
	for i, p := range l {
		if i > 0 && l[i-1].Name == p.Name {
			return "", api.ErrTwice
		}
		parts[i] = p.Name + ":" + p.Type
	}
	return inLimits(front + "[" + strings.Join(parts, ",") + "]")
}

// checkParts asks each part alone: the names of all come ahead of the types.
func checkParts(l []api.Part) api.Errno {
	if len(l) == 0 || len(l) > api.MaxFields {
		return api.ErrArg
	}
	for _, p := range l {
		if !token.IsName(p.Name) {
			return api.ErrArg
		}
	}
	for _, p := range l {
		if e := Check(p.Type); e != api.OK {
			return e
		}
	}
	return api.OK
}

// With returns a type with a type in the place of the parameter.
func With(t, arg string) (string, api.Errno) {
	for _, s := range [...]string{t, arg} {
		if e := Check(s); e != api.OK {
			return "", e
		}
	}
	return inLimits(strings.ReplaceAll(t, parameter, arg))
}

// inLimits returns what was made of types, unless it is too large for one.
func inLimits(t string) (string, api.Errno) {
	if e := Check(t); e != api.OK {
		return "", e
	}
	return t, api.OK
}
