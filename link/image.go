package link

import (
	"slices"

	"argus/api"
)

// CheckImage returns ErrImage for an image that is not as said.
func CheckImage(i api.Image) api.Errno {
	if !hasNames(i) || !hasStarts(i) {
		return api.ErrImage
	}
	return api.OK
}

func hasNames(i api.Image) bool {
	if len(i.Names) > api.MaxFlows {
		return false
	}
	last := ""
	for _, name := range i.Names {
		if !isName(name) || name <= last {
			return false
		}
		last = name
	}
	return true
}

// hasStarts reports whether the code is cut into as many parts as there are names.
func hasStarts(i api.Image) bool {
	switch {
	case len(i.Starts) != len(i.Names) || len(i.Code) > api.MaxFlows*api.MaxCode:
		return false
	case len(i.Starts) == 0:
		return len(i.Code) == 0
	case i.Starts[0] != 0:
		return false
	}
	last := 0
	for _, start := range i.Starts {
		if start < last || start > len(i.Code) {
			return false
		}
		last = start
	}
	return true
}

// Number returns the index of a name, and whether there is such a name.
func Number(i api.Image, name string) (int, bool, api.Errno) {
	if e := CheckImage(i); e != api.OK {
		return 0, false, e
	}
	n, is := slices.BinarySearch(i.Names, name)
	if !is {
		return 0, false, api.OK
	}
	return n, true, api.OK
}

// Part returns the code of the name with an index.
func Part(i api.Image, n int) ([]byte, api.Errno) {
	switch e := CheckImage(i); {
	case e != api.OK:
		return nil, e
	case n < 0 || n >= len(i.Names):
		return nil, api.ErrArg
	}
	return copied(part(i, n)), api.OK
}

// part returns the code of the name with an index in its place.
func part(i api.Image, n int) []byte {
	from, to := i.Starts[n], len(i.Code)
	if n+1 < len(i.Starts) {
		to = i.Starts[n+1]
	}
	return i.Code[from:to:to]
}
