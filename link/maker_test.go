package link_test

import (
	"bytes"
	"math/rand/v2"
	"slices"
	"strings"
	"testing"

	"argus/api"
	"argus/sample"
)

// someName returns a name, often one of a few, so that there are others with the same beginning, and others again with its letters.
func someName(r *rand.Rand) string {
	switch r.IntN(4) {
	case 0:
		return sample.Pick(r, "!", "~", "A", "main", "set$new", strings.Repeat("n", 120), strings.Repeat("n", 119))
	case 1:
		return string([]byte{byte(33 + r.IntN(94)), byte(33 + r.IntN(94))})
	}
	s := ""
	for range 1 + r.IntN(3) {
		s += sample.Pick(r, "a", "b", "$")
	}
	return s
}

// someText is mostly a name.
func someText(r *rand.Rand) string {
	if r.IntN(4) == 0 {
		return sample.Pick(r, noNames()...)
	}
	return someName(r)
}

// someObject returns an object whose relocs have some names; it may have none.
func someObject(r *rand.Rand, name string, names []string) api.Object {
	o := api.Object{Name: name}
	more := func() {
		for range r.IntN(3) * r.IntN(4) {
			o.Code = append(o.Code, byte(sample.Pick(r, 0, 1, r.IntN(256))))
		}
	}
	more()
	for range sample.Pick(r, 0, 1, 2, r.IntN(6)) {
		o.Relocs = append(o.Relocs, api.Reloc{At: len(o.Code), Name: sample.Pick(r, names...)})
		o.Code = append(o.Code, 0, 0)
		more()
	}
	return o
}

// someLibrary returns a library, and names that it has, and a few others at times.
func someLibrary(r *rand.Rand) ([]api.Object, []string) {
	var names []string
	for range r.IntN(sample.Pick(r, 4, 8, 16, 61)) {
		names = put(names, someName(r))
	}
	needed := slices.Clone(names)
	for len(needed) == 0 || r.IntN(3) == 0 {
		needed = append(needed, someName(r))
	}
	var l []api.Object
	for _, name := range names {
		l = append(l, someObject(r, name, needed))
	}
	return shuffled(r, l), needed
}

// someRoots returns a few names, which may stand there twice.
func someRoots(r *rand.Rand, names []string) []string {
	var roots []string
	for range r.IntN(4) {
		roots = append(roots, sample.Pick(r, names...))
	}
	if r.IntN(10) == 0 {
		roots = append(roots, someText(r))
	}
	return roots
}

// libraries calls do with libraries by chance, and roots.
func libraries(t *testing.T, seed uint64, n int, do func(r *rand.Rand, l []api.Object, names, roots []string)) {
	t.Helper()
	r := rand.New(rand.NewPCG(seed, 16))
	for range n {
		l, names := someLibrary(r)
		isLibrary(t, l)
		do(r, l, names, someRoots(r, names))
	}
}

// changedObject returns another object, which may be none.
func changedObject(r *rand.Rand, o api.Object) api.Object {
	o = copied(o)
	n := len(o.Relocs)
	k := r.IntN(9)
	if n == 0 {
		k = r.IntN(4)
	}
	switch k {
	case 0:
		o.Name = someText(r)
	case 1:
		o.Code = changedBytes(r, o.Code)
	case 2:
		o.Relocs = append(o.Relocs, api.Reloc{At: r.IntN(len(o.Code)+3) - 1, Name: someText(r)})
	case 3:
		at := r.IntN(len(o.Code) + 1)
		o.Code = slices.Insert(o.Code, at, make([]byte, r.IntN(4))...)
	case 4:
		o.Relocs = slices.Delete(o.Relocs, n-1, n)
	case 5:
		o.Relocs[r.IntN(n)].At += sample.Pick(r, -1, 1, 2, -2, 1<<62, -1<<63)
	case 6:
		i, j := r.IntN(n), r.IntN(n)
		o.Relocs[i], o.Relocs[j] = o.Relocs[j], o.Relocs[i]
	case 7:
		o.Relocs[r.IntN(n)].Name = someText(r)
	case 8:
		i := r.IntN(n)
		o.Relocs = slices.Insert(o.Relocs, i, o.Relocs[r.IntN(n)])
	}
	return o
}

// changedLibrary returns another list of objects.
func changedLibrary(r *rand.Rand, l []api.Object) []api.Object {
	l = copied(l)
	if len(l) == 0 {
		return []api.Object{{Name: someText(r)}}
	}
	i, j := r.IntN(len(l)), r.IntN(len(l))
	switch r.IntN(6) {
	case 0:
		return slices.Delete(l, i, i+1)
	case 1:
		return slices.Insert(l, i, copied(l[j]))
	case 2:
		l[i].Name = l[j].Name
	case 3:
		l[i], l[j] = l[j], l[i]
	default:
		l[i] = changedObject(r, l[i])
	}
	return l
}

// changedBytes returns other bytes: one, two or some are others, left out, or put in.
func changedBytes(r *rand.Rand, b []byte) []byte {
	b = slices.Clone(b)
	if len(b) == 0 {
		return bytesOf(r.IntN(3))
	}
	at := r.IntN(len(b))
	to := min(len(b), at+1+r.IntN(8))
	some := sample.Pick(r, 0, 1, 2, 33, 97, 126, 255, r.IntN(256))
	switch r.IntN(6) {
	case 0:
		return slices.Delete(b, at, to)
	case 1:
		return slices.Insert(b, at, byte(some))
	case 2:
		return b[:at]
	case 3:
		b[at] += byte(r.IntN(3)) - 1
	default:
		b[at] = byte(some)
	}
	return b
}

// someImage returns an image that is not one of a library.
func someImage(r *rand.Rand) api.Image {
	var i api.Image
	for range r.IntN(sample.Pick(r, 3, 6, 61)) {
		i.Names = put(i.Names, someName(r))
	}
	for range i.Names {
		i.Starts = append(i.Starts, len(i.Code))
		i.Code = append(i.Code, bytes.Repeat(bytesOf(r.IntN(256)), r.IntN(2)*r.IntN(6))...)
	}
	return i
}

// changedImage returns another image, which may be none.
func changedImage(r *rand.Rand, i api.Image) api.Image {
	i = copied(i)
	n, starts := len(i.Names), len(i.Starts)
	k := r.IntN(8)
	if n == 0 || starts == 0 {
		k = r.IntN(4)
	}
	switch k {
	case 0:
		i.Code = changedBytes(r, i.Code)
	case 1:
		i.Names = slices.Insert(i.Names, r.IntN(n+1), someText(r))
	case 2:
		i.Starts = slices.Insert(i.Starts, r.IntN(starts+1), r.IntN(len(i.Code)+2))
	case 3:
		// Both at once, so that it may be right again.
		at := r.IntN(min(n, starts) + 1)
		i.Names = slices.Insert(i.Names, at, someText(r))
		i.Starts = slices.Insert(i.Starts, at, r.IntN(len(i.Code)+1))
	case 4:
		i.Names[r.IntN(n)] = someText(r)
	case 5:
		i.Starts[r.IntN(starts)] += sample.Pick(r, -1, 1, 2, -2, 1<<62, -1<<63)
	case 6:
		i.Names = slices.Delete(i.Names, n-1, n)
	case 7:
		i.Starts = slices.Delete(i.Starts, starts-1, starts)
	}
	return i
}
