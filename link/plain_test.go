package link_test

import (
	"slices"
	"strings"

	"argus/api"
)

// This is a second way to do what the chapter says, as near to its words as can be.

const visible = "!\"#$%&'()*+,-./0123456789:;<=>?@ABCDEFGHIJKLMNOPQRSTUVWXYZ[\\]^_`abcdefghijklmnopqrstuvwxyz{|}~"

func plainName(s string) bool {
	return 1 <= len(s) && len(s) <= 120 && strings.Trim(s, visible) == ""
}

func plainObject(o api.Object) bool {
	if !plainName(o.Name) || len(o.Code) > 20000 || len(o.Relocs) > 2000 {
		return false
	}
	for i, r := range o.Relocs {
		if r.At < 0 || r.At > len(o.Code)-2 || !plainName(r.Name) || o.Code[r.At] != 0 || o.Code[r.At+1] != 0 {
			return false
		}
		if i > 0 && r.At-o.Relocs[i-1].At < 2 {
			return false
		}
	}
	return true
}

func plainAll(l []api.Object) (int, api.Errno) {
	if len(l) > 60 {
		return 0, api.ErrLimit
	}
	for i, o := range l {
		if !plainObject(o) {
			return i, api.ErrObject
		}
		for _, before := range l[:i] {
			if before.Name == o.Name {
				return i, api.ErrTwice
			}
		}
	}
	return 0, api.OK
}

// put puts a name into an ascending list, if it is not there.
func put(l []string, name string) []string {
	for i, s := range l {
		if s == name {
			return l
		}
		if s > name {
			return slices.Insert(l, i, name)
		}
	}
	return append(l, name)
}

func plainNeeds(o api.Object) []string {
	var l []string
	for _, r := range o.Relocs {
		l = put(l, r.Name)
	}
	return l
}

// plainReached adds what is needed until there is no more.
func plainReached(l []api.Object, roots []string) []string {
	var reached []string
	for _, name := range roots {
		reached = put(reached, name)
	}
	for n := -1; n < len(reached); {
		n = len(reached)
		for _, o := range l {
			if !slices.Contains(reached, o.Name) {
				continue
			}
			for _, name := range plainNeeds(o) {
				reached = put(reached, name)
			}
		}
	}
	return reached
}

func plainFind(l []api.Object, name string) (api.Object, bool) {
	for _, o := range l {
		if o.Name == name {
			return o, true
		}
	}
	return api.Object{}, false
}

func plainMissing(l []api.Object, roots []string) []string {
	var missing []string
	for _, name := range plainReached(l, roots) {
		if _, has := plainFind(l, name); !has {
			missing = append(missing, name)
		}
	}
	return missing
}

// plainLink returns the image of a library and roots, if nothing is missing.
func plainLink(l []api.Object, roots []string) (api.Image, bool) {
	var i api.Image
	i.Names = plainReached(l, roots)
	for _, name := range i.Names {
		o, has := plainFind(l, name)
		if !has {
			return api.Image{}, false
		}
		i.Starts = append(i.Starts, len(i.Code))
		code := string(o.Code)
		for _, r := range o.Relocs {
			n := slices.Index(i.Names, r.Name)
			code = code[:r.At] + string(bytesOf(n/256, n%256)) + code[r.At+2:]
		}
		i.Code = append(i.Code, code...)
	}
	return i, true
}

func plainWithout(l []api.Object, roots []string) []api.Object {
	var kept []api.Object
	for _, o := range l {
		if slices.Contains(plainReached(l, roots), o.Name) {
			kept = append(kept, o)
		}
	}
	return kept
}

func plainImage(i api.Image) bool {
	if len(i.Names) > 60 || len(i.Names) != len(i.Starts) || len(i.Code) > 1200000 {
		return false
	}
	for k, name := range i.Names {
		switch {
		case !plainName(name), i.Starts[k] > len(i.Code), k == 0 && i.Starts[k] != 0:
			return false
		case k > 0 && (i.Names[k-1] >= name || i.Starts[k-1] > i.Starts[k]):
			return false
		}
	}
	return len(i.Names) > 0 || len(i.Code) == 0
}

func plainPart(i api.Image, n int) []byte {
	if n == len(i.Names)-1 {
		return i.Code[i.Starts[n]:]
	}
	return i.Code[i.Starts[n]:i.Starts[n+1]]
}

func plainWrite(i api.Image) []byte {
	b := bytesOf(len(i.Names))
	for k, name := range i.Names {
		b = append(b, byte(len(name)))
		b = append(b, name...)
		n := i.Starts[k]
		b = append(b, bytesOf(n/256/256/256, n/256/256%256, n/256%256, n%256)...)
	}
	return append(b, i.Code...)
}

// plainRead returns the image with some bytes, if there is one.
func plainRead(b []byte) (api.Image, bool) {
	if len(b) == 0 {
		return api.Image{}, false
	}
	var i api.Image
	count, from := int(b[0]), 1
	for range count {
		if from >= len(b) || from+1+int(b[from])+4 > len(b) {
			return api.Image{}, false
		}
		to := from + 1 + int(b[from])
		i.Names = append(i.Names, string(b[from+1:to]))
		i.Starts = append(i.Starts, int(b[to])*256*256*256+int(b[to+1])*256*256+int(b[to+2])*256+int(b[to+3]))
		from = to + 4
	}
	i.Code = slices.Clone(b[from:])
	if !plainImage(i) {
		return api.Image{}, false
	}
	return i, true
}
