package link_test

import (
	"bytes"
	"fmt"
	"math/rand/v2"
	"slices"
	"strings"
	"testing"

	"argus/api"
	"argus/link"
	"argus/sample"
)

// asPlain asks whether all functions with a library do what the second way does, and returns the image, if there is one.
func asPlain(t *testing.T, l []api.Object, roots []string) (api.Image, bool) {
	t.Helper()
	reached := must[[]string](t, l)(link.Reached(l, roots))
	if want := plainReached(l, roots); !slices.Equal(reached, want) {
		t.Fatalf("W3: %q, not %q of %v, %q", reached, want, l, roots)
	}
	missing := must[[]string](t, l)(link.Missing(l, roots))
	if want := plainMissing(l, roots); !slices.Equal(missing, want) {
		t.Fatalf("W3: %q, not %q of %v, %q", missing, want, l, roots)
	}
	want, is := plainLink(l, roots)
	err, kept := api.OK, plainWithout(l, roots)
	if !is {
		err, kept = api.ErrMissing, nil
	}
	i, e := link.Link(l, roots)
	if e != err || !same(i, want) {
		t.Fatalf("W4: %v, %d, not %v of %v, %q", i, e, want, l, roots)
	}
	if has, e := link.CheckLink(l, roots, want); has != is || e != api.OK {
		t.Fatalf("W4: %v, %d: %v of %v, %q", has, e, want, l, roots)
	}
	if got, e := link.Without(l, roots); e != err || !same(got, kept) {
		t.Fatalf("W7: %v, %d, not %v of %v, %q", got, e, kept, l, roots)
	}
	return i, is
}

// P16.1, P16.2: libraries by chance, in any order, with more of them and of the roots.
func TestLibrariesByChance(t *testing.T) {
	t.Parallel()
	are, areNot, many := 0, 0, 0
	libraries(t, 1, 5000, func(r *rand.Rand, l []api.Object, names, roots []string) {
		i, is := asPlain(t, l, roots)
		if !is {
			areNot++
			return
		}
		are++
		if len(i.Names) > 9 {
			many++
		}
		for range 3 {
			other := shuffled(r, l)
			others := append(shuffled(r, roots), roots[:r.IntN(len(roots)+1)]...)
			// What is not reached may be there, not be there, or be something else.
			other = slices.DeleteFunc(other, func(o api.Object) bool { return r.IntN(2) == 0 && !slices.Contains(i.Names, o.Name) })
			if name := someName(r); len(other) < 60 && !slices.Contains(i.Names, name) && !slices.ContainsFunc(other, func(o api.Object) bool { return o.Name == name }) {
				other = slices.Insert(other, r.IntN(len(other)+1), someObject(r, name, names))
			}
			if got, e := link.Link(other, others); e != api.OK || !same(got, i) {
				t.Fatalf("P16.2: %v, %d, not %v of %v, %q", got, e, i, other, others)
			}
			if is, e := link.CheckLink(other, others, i); !is || e != api.OK {
				t.Fatalf("P16.2: %v, %d: %v of %v, %q", is, e, i, other, others)
			}
		}
	})
	if are < 1000 || areNot < 500 || many < 200 {
		t.Errorf("only %d, %d, %d", are, areNot, many)
	}
}

// P16.1: all libraries of three objects that need some of each other, and one that is missing, with all roots.
func TestAllSmallLibraries(t *testing.T) {
	t.Parallel()
	names := []string{"c", "a", "d", "b"}
	chosen := func(set int) []string {
		var l []string
		for i, name := range names {
			if set>>i&1 == 1 {
				l = append(l, name)
			}
		}
		return l
	}
	for sets := range 1 << 12 {
		var l []api.Object
		for i := range 3 {
			l = append(l, needing(names[i], i, chosen(sets>>(4*i)&15)...))
		}
		for roots := range 1 << 4 {
			asPlain(t, l, chosen(roots))
		}
	}
}

// P16.3: Without is the least library, and what is reached grows with the roots, and is closed.
func TestLeastLibraries(t *testing.T) {
	t.Parallel()
	least, closed := 0, 0
	libraries(t, 2, 3000, func(r *rand.Rand, l []api.Object, names, roots []string) {
		reached := must[[]string](t, l)(link.Reached(l, roots))
		fewer := must[[]string](t, l)(link.Reached(l, roots[:r.IntN(len(roots)+1)]))
		for _, name := range fewer {
			if !slices.Contains(reached, name) {
				t.Fatalf("P16.3: %q, not %q of %v", reached, fewer, l)
			}
		}
		if len(reached) <= 60 {
			if again := must[[]string](t, l)(link.Reached(l, reached)); !slices.Equal(again, reached) {
				t.Fatalf("P16.3: %q, not %q of %v", again, reached, l)
			}
			closed++
		}
		i, e := link.Link(l, roots)
		if e != api.OK {
			return
		}
		kept := must[[]api.Object](t, l)(link.Without(l, roots))
		if got, e := link.Link(kept, roots); e != api.OK || !same(got, i) {
			t.Fatalf("P16.3: %v, %d, not %v of %v", got, e, i, kept)
		}
		if again, e := link.Without(kept, roots); e != api.OK || !same(again, kept) {
			t.Fatalf("P16.3: %v, %d, not %v", again, e, kept)
		}
		for at := range kept {
			if missing := must[[]string](t, l)(link.Missing(slices.Delete(copied(kept), at, at+1), roots)); !slices.Equal(missing, []string{kept[at].Name}) {
				t.Fatalf("P16.3: %q: %v without %d, %q", missing, kept, at, roots)
			}
			least++
		}
	})
	if least < 1000 || closed < 1000 {
		t.Errorf("only %d, %d", least, closed)
	}
}

// P16.4: parts are the codes of objects, but where numbers stand.
func TestPartsByChance(t *testing.T) {
	t.Parallel()
	parts, relocs := 0, 0
	libraries(t, 3, 3000, func(r *rand.Rand, l []api.Object, names, roots []string) {
		i, e := link.Link(l, roots)
		if e != api.OK {
			return
		}
		if e := link.CheckImage(i); e != api.OK {
			t.Fatalf("W5: %d: %v", e, i)
		}
		for _, o := range l {
			n, is, e := link.Number(i, o.Name)
			if e != api.OK || is != slices.Contains(i.Names, o.Name) {
				t.Fatalf("P16.4: %d, %v, %d: %q of %v", n, is, e, o.Name, i)
			}
			if !is {
				continue
			}
			part := must[[]byte](t, i)(link.Part(i, n))
			for _, reloc := range o.Relocs {
				to, is, e := link.Number(i, reloc.Name)
				if at := part[reloc.At:]; !is || e != api.OK || int(at[0])*256+int(at[1]) != to || i.Names[to] != reloc.Name {
					t.Fatalf("P16.4: %d, %v, %d: %v of %v", to, is, e, part, i)
				}
				part[reloc.At], part[reloc.At+1] = 0, 0
				relocs++
			}
			if !bytes.Equal(part, o.Code) {
				t.Fatalf("P16.4: %v, not %v", part, o.Code)
			}
			parts++
		}
	})
	if parts < 2000 || relocs < 2000 {
		t.Errorf("only %d, %d", parts, relocs)
	}
}

// P16.5: images that were changed, and their bytes.
func TestImagesByChance(t *testing.T) {
	t.Parallel()
	r := rand.New(rand.NewPCG(4, 16))
	are, areNot := 0, 0
	for range 3000 {
		i := someImage(r)
		for range 5 {
			if e := link.CheckImage(i); (e == api.OK) != plainImage(i) {
				t.Fatalf("W5: %d: %v", e, i)
			}
			if !plainImage(i) {
				isNoImage(t, fmt.Sprint(i), i)
				areNot++
				break
			}
			are++
			b := must[[]byte](t, i)(link.Write(i))
			if !bytes.Equal(b, plainWrite(i)) {
				t.Fatalf("W6: %v of %v", b, i)
			}
			if back, e := link.Read(b); e != api.OK || !same(back, i) {
				t.Fatalf("P16.5: %v, %d, not %v", back, e, i)
			}
			for n, name := range i.Names {
				if at, is, e := link.Number(i, name); at != n || !is || e != api.OK {
					t.Fatalf("W5: %d, %v, %d, not %d of %v", at, is, e, n, i)
				}
				if part, e := link.Part(i, n); e != api.OK || !bytes.Equal(part, plainPart(i, n)) {
					t.Fatalf("W5: %v, %d: %d of %v", part, e, n, i)
				}
			}
			i = changedImage(r, i)
		}
	}
	if are < 3000 || areNot < 1000 {
		t.Errorf("only %d, %d", are, areNot)
	}
}

// isRead asks whether bytes are read as the second way does it, and returns whether they are those of an image.
func isRead(t *testing.T, b []byte) bool {
	t.Helper()
	want, is := plainRead(b)
	i, e := link.Read(b)
	if !is {
		if e != api.ErrForm || !same(i, api.Image{}) {
			t.Fatalf("W6: %v, %d of %v", i, e, b)
		}
		return false
	}
	if e != api.OK || !same(i, want) {
		t.Fatalf("W6: %v, %d, not %v of %v", i, e, want, b)
	}
	if back, e := link.Write(i); e != api.OK || !bytes.Equal(back, b) {
		t.Fatalf("P16.5: %v, %d, not %v", back, e, b)
	}
	return true
}

// P16.5: bytes that were changed, all beginnings, and all other bytes in one place.
func TestBytesByChance(t *testing.T) {
	t.Parallel()
	r := rand.New(rand.NewPCG(5, 16))
	are, areNot := 0, 0
	count := func(is bool) {
		if is {
			are++
		} else {
			areNot++
		}
	}
	for range 2000 {
		b := plainWrite(someImage(r))
		for range 10 {
			changed := changedBytes(r, b)
			is := isRead(t, changed)
			count(is)
			if is {
				b = changed
			}
		}
	}
	i := api.Image{Names: []string{"a", "c$d"}, Starts: []int{0, 2}, Code: bytesOf(7, 8, 9)}
	b := plainWrite(i)
	for at := range b {
		isRead(t, b[:at])
		for c := range 256 {
			changed := slices.Clone(b)
			changed[at] = byte(c)
			count(isRead(t, changed))
		}
	}
	if are < 3000 || areNot < 5000 {
		t.Errorf("only %d, %d", are, areNot)
	}
}

// W6: all short bytes of a few values.
func TestShortBytes(t *testing.T) {
	t.Parallel()
	is := 0
	var each func(b []byte)
	each = func(b []byte) {
		if isRead(t, b) {
			is++
		}
		if len(b) < 9 {
			for _, c := range []byte{0, 1, 2, '!'} {
				each(append(b, c))
			}
		}
	}
	each(make([]byte, 0, 9))
	// The image without names, "!" with up to two bytes behind it, and "!!" with up to one.
	if want := 1 + 1 + 4 + 16 + 1 + 4; is != want {
		t.Errorf("W6: %d, not %d", is, want)
	}
}

// P16.6: other names in the same order.
func TestOtherNames(t *testing.T) {
	t.Parallel()
	linked := 0
	libraries(t, 6, 3000, func(r *rand.Rand, l []api.Object, names, roots []string) {
		i, e := link.Link(l, roots)
		if e != api.OK {
			return
		}
		var old, others []string
		for _, o := range l {
			old = put(old, o.Name)
			for _, reloc := range o.Relocs {
				old = put(old, reloc.Name)
			}
		}
		for len(others) < len(old) {
			others = put(others, sample.Pick(r, "", "a", "~")+someName(r)[:1]+strings.Repeat("x", r.IntN(9)))
		}
		renamed := func(name string) string { return others[slices.Index(old, name)] }
		l = copied(l)
		for k := range l {
			l[k].Name = renamed(l[k].Name)
			for n := range l[k].Relocs {
				l[k].Relocs[n].Name = renamed(l[k].Relocs[n].Name)
			}
		}
		roots = slices.Clone(roots)
		for k := range roots {
			roots[k] = renamed(roots[k])
		}
		want := copied(i)
		for k := range want.Names {
			want.Names[k] = renamed(want.Names[k])
		}
		if got, e := link.Link(l, roots); e != api.OK || !same(got, want) {
			t.Fatalf("P16.6: %v, %d, not %v of %v", got, e, want, l)
		}
		linked++
	})
	if linked < 1000 {
		t.Errorf("only %d", linked)
	}
}

// P16.1: lists of objects that were changed: which one is refused, and why.
func TestListsByChance(t *testing.T) {
	t.Parallel()
	seen := map[api.Errno]int{}
	libraries(t, 7, 4000, func(r *rand.Rand, l []api.Object, names, roots []string) {
		for range 5 {
			at, e := link.CheckAll(l)
			if want, err := plainAll(l); at != want || e != err {
				t.Fatalf("W1: %d, %d, not %d, %d of %v", at, e, want, err, l)
			}
			for _, o := range l {
				needs, e := link.Needs(o)
				if is := plainObject(o); is && (e != api.OK || !slices.Equal(needs, plainNeeds(o))) || !is && (e != api.ErrObject || len(needs) > 0) {
					t.Fatalf("W2: %q, %d of %v", needs, e, o)
				}
				if link.Check(o) != e {
					t.Fatalf("W1: %d: %v", e, o)
				}
			}
			seen[e]++
			if e == api.OK {
				asPlain(t, l, roots)
			}
			l = changedLibrary(r, l)
		}
	})
	for _, e := range []api.Errno{api.OK, api.ErrObject, api.ErrTwice} {
		if seen[e] < 500 {
			t.Errorf("only %v", seen)
		}
	}
}

// W4: images near that of a library and roots are not it.
func TestNearImages(t *testing.T) {
	t.Parallel()
	differ := 0
	libraries(t, 8, 2000, func(r *rand.Rand, l []api.Object, names, roots []string) {
		want, is := plainLink(l, roots)
		i := want
		for range 4 {
			i = changedImage(r, i)
			if got, e := link.CheckLink(l, roots, i); e != api.OK || got != (is && same(i, want)) {
				t.Fatalf("W4: %v, %d: %v, %v of %v", got, e, i, want, l)
			}
			if is && !same(i, want) {
				differ++
			}
		}
	})
	if differ < 1000 {
		t.Errorf("only %d", differ)
	}
}
