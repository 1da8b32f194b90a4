package link_test

import (
	"bytes"
	"slices"
	"strings"
	"testing"

	"argus/api"
	"argus/link"
)

// isRefused asks whether all functions refuse what is no object.
func isRefused(t *testing.T, what string, o api.Object) {
	t.Helper()
	if e := link.Check(o); e != api.ErrObject {
		t.Errorf("W1: %s: %d", what, e)
	}
	if l, e := link.Needs(o); e != api.ErrObject || len(l) > 0 {
		t.Errorf("W2: %s: %q, %d", what, l, e)
	}
	l := []api.Object{exampleG(), exampleF(), o, exampleM(), exampleM()}
	at, errs := errorsOf(t, l, nil, api.Image{})
	if at != 2 || !slices.Equal(errs, all(api.ErrObject)) {
		t.Errorf("W1: %s: %d, %v", what, at, errs)
	}
}

// errorsOf returns the index of CheckAll, and the errors of all functions with a library, and asks whether there is nothing beside
// an error.
func errorsOf(t *testing.T, l []api.Object, roots []string, i api.Image) (int, []api.Errno) {
	t.Helper()
	at, e1 := link.CheckAll(l)
	reached, e2 := link.Reached(l, roots)
	missing, e3 := link.Missing(l, roots)
	image, e4 := link.Link(l, roots)
	is, e5 := link.CheckLink(l, roots, i)
	kept, e6 := link.Without(l, roots)
	if e2 != api.OK && len(reached) > 0 || e3 != api.OK && len(missing) > 0 || e4 != api.OK && !same(image, api.Image{}) || e5 != api.OK && is || e6 != api.OK && len(kept) > 0 {
		t.Errorf("R2: %q, %q, %v, %v, %v", reached, missing, image, is, kept)
	}
	return at, []api.Errno{e1, e2, e3, e4, e5, e6}
}

func all(e api.Errno) []api.Errno { return slices.Repeat([]api.Errno{e}, 6) }

// noNames are texts that are no names.
func noNames() []string {
	return []string{"", " ", "a b", " a", "a ", "\x20", "\x7f", "a\x7f", "\x1f", "a\n", "\x00", "\x80", "a\xff", "é", strings.Repeat("n", 121), strings.Repeat("n", 1<<16)}
}

// goodNames are texts that are names.
func goodNames() []string {
	return []string{"!", "~", "a", "A$b", "[?t]", "\"", "%", strings.Repeat("n", 120), strings.Repeat("~", 120), "0", "-1", "a\\b"}
}

// W1: names of objects, and of relocs.
func TestNames(t *testing.T) {
	for _, s := range noNames() {
		isRefused(t, "a name", object(s, nil))
		isRefused(t, "a name that is needed", object("a", bytesOf(0, 0, 0, 0), 0, "f", 2, s))
	}
	for _, s := range goodNames() {
		o := object(s, bytesOf(0, 0), 0, s)
		if e := link.Check(o); e != api.OK {
			t.Errorf("W1: %q: %d", s, e)
		}
		if l, e := link.Needs(o); e != api.OK || !slices.Equal(l, []string{s}) {
			t.Errorf("W2: %q: %q, %d", s, l, e)
		}
	}
	for c := range 256 {
		for _, s := range []string{string([]byte{byte(c)}), string([]byte{'a', byte(c), 'b'})} {
			if e := link.Check(object(s, nil)); (e == api.OK) != (c >= 33 && c <= 126) {
				t.Errorf("W1: %q: %d", s, e)
			}
		}
	}
}

// W1: where relocs may stand.
func TestPlacesOfRelocs(t *testing.T) {
	zeros := make([]byte, 6)
	for what, o := range map[string]api.Object{
		"no code":         object("a", nil, 0, "f"),
		"one byte":        object("a", bytesOf(0), 0, "f"),
		"before the code": object("a", zeros, -1, "f"),
		"half behind":     object("a", zeros, 5, "f"),
		"behind":          object("a", zeros, 6, "f"),
		"far behind":      object("a", zeros, 1<<62, "f"),
		"greatest":        object("a", zeros, 1<<63-1, "f"),
		"far before":      object("a", zeros, -1<<63, "f"),
		"twice":           object("a", zeros, 2, "f", 2, "g"),
		"one on another":  object("a", zeros, 2, "f", 3, "g"),
		"descending":      object("a", zeros, 4, "f", 2, "g"),
		"third":           object("a", zeros, 0, "f", 2, "f", 3, "f"),
		"behind others":   object("a", zeros, 0, "f", 2, "f", 1<<63-1, "f"),
		"before others":   object("a", zeros, 1<<63-1, "f", -1<<63, "f"),
		"greater byte":    object("a", bytesOf(0, 1, 0, 0), 1, "f"),
		"less byte":       object("a", bytesOf(0, 0, 255, 0), 1, "f"),
		"of the second":   object("a", bytesOf(0, 0, 0, 0, 0, 7), 0, "f", 4, "f"),
	} {
		isRefused(t, what, o)
	}
	for what, o := range map[string]api.Object{
		"nothing":         object("a", nil),
		"no relocs":       object("a", bytesOf(0, 0, 0, 255)),
		"first":           object("a", zeros, 0, "f"),
		"last":            object("a", zeros, 4, "f"),
		"all":             object("a", zeros, 0, "f", 2, "f", 4, "g"),
		"odd":             object("a", zeros, 1, "f", 3, "a"),
		"nothing beside":  object("a", bytesOf(0, 0), 0, "f"),
		"others not zero": object("a", bytesOf(1, 0, 0, 255, 0, 0, 7), 1, "f", 4, "g"),
	} {
		if e := link.Check(o); e != api.OK {
			t.Errorf("W1: %s: %d", what, e)
		}
	}
}

// W1: of several objects the first one that is refused decides; of one that is wrong twice, that it is none.
func TestOrderOfErrors(t *testing.T) {
	a, b, bad, badA := needing("a", 1), needing("b", 1), object("c", bytesOf(1, 1), 0, "a"), object("a", bytesOf(1, 1), 0, "a")
	for i, x := range []struct {
		l  []api.Object
		at int
		e  api.Errno
	}{
		{nil, 0, api.OK},
		{[]api.Object{}, 0, api.OK},
		{[]api.Object{a}, 0, api.OK},
		{[]api.Object{b, a}, 0, api.OK},
		{[]api.Object{a, a}, 1, api.ErrTwice},
		{[]api.Object{a, b, a, bad}, 2, api.ErrTwice},
		{[]api.Object{b, a, bad, a}, 2, api.ErrObject},
		{[]api.Object{bad, bad}, 0, api.ErrObject},
		{[]api.Object{a, badA}, 1, api.ErrObject},
		{[]api.Object{badA, a}, 0, api.ErrObject},
		{[]api.Object{a, b, {}}, 2, api.ErrObject},
		{[]api.Object{a, b, object("c", nil), b, a}, 3, api.ErrTwice},
		{[]api.Object{a, object("a", bytesOf(9))}, 1, api.ErrTwice},
		{[]api.Object{object("A", nil), a, object("a!", nil), object("!a", nil)}, 0, api.OK},
	} {
		at, errs := errorsOf(t, x.l, nil, api.Image{})
		if at != x.at || !slices.Equal(errs, all(x.e)) {
			t.Errorf("W1: %d: %d, %v", i, at, errs)
		}
	}
}

// W3, W4, W7: the error of the library comes first, then ErrLimit, then ErrMissing.
func TestErrorsOfRoots(t *testing.T) {
	bad := object("c", bytesOf(1, 1), 0, "a")
	most, more := slices.Repeat([]string{"m"}, 60), slices.Repeat([]string{"m"}, 61)
	for i, x := range []struct {
		l     []api.Object
		roots []string
		want  []api.Errno
	}{
		{examples(), most, all(api.OK)},
		{examples(), more, append([]api.Errno{api.OK}, all(api.ErrLimit)[1:]...)},
		{examples(), slices.Repeat([]string{"x"}, 61), append([]api.Errno{api.OK}, all(api.ErrLimit)[1:]...)},
		{examples(), make([]string, 1<<20), append([]api.Errno{api.OK}, all(api.ErrLimit)[1:]...)},
		{append(examples(), bad), more, all(api.ErrObject)},
		{append(examples(), bad), []string{"x"}, all(api.ErrObject)},
		{append(examples(), exampleM()), more, all(api.ErrTwice)},
		{slices.Repeat(examples(), 16), more, all(api.ErrLimit)},
		{examples(), []string{"m", "h"}, []api.Errno{0, 0, 0, api.ErrMissing, 0, api.ErrMissing}},
		{examples(), []string{"", "m"}, []api.Errno{0, 0, 0, api.ErrMissing, 0, api.ErrMissing}},
		{nil, []string{"m"}, []api.Errno{0, 0, 0, api.ErrMissing, 0, api.ErrMissing}},
		{nil, nil, all(api.OK)},
		{nil, more, append([]api.Errno{api.OK}, all(api.ErrLimit)[1:]...)},
	} {
		if _, errs := errorsOf(t, x.l, x.roots, api.Image{}); !slices.Equal(errs, x.want) {
			t.Errorf("%d: %v, not %v", i, errs, x.want)
		}
	}
}

// W2: each name once, ascending byte by byte.
func TestNeeds(t *testing.T) {
	for i, x := range []struct {
		names, want []string
	}{
		{nil, nil},
		{[]string{"b", "a", "b", "c", "a"}, []string{"a", "b", "c"}},
		{[]string{"a$b", "a", "aa", "B", "a!", "~"}, []string{"B", "a", "a!", "a$b", "aa", "~"}},
		{[]string{"p", "p", "p"}, []string{"p"}},
	} {
		if l, e := link.Needs(needing("p", i, x.names...)); e != api.OK || !slices.Equal(l, x.want) {
			t.Errorf("W2: %q: %q, %d", x.names, l, e)
		}
	}
}

// chain is a library in which a needs b, and so on, the last one the first; d needs out, too, which is missing.
func chain() []api.Object {
	return []api.Object{needing("c", 1, "d"), needing("a", 2, "b"), needing("d", 3, "out", "a"), needing("b", 0, "c"), needing("own", 1, "own"), needing("alone", 2)}
}

// W3: roots are any texts; what is missing is reached, too.
func TestReached(t *testing.T) {
	circle := []string{"a", "b", "c", "d", "out"}
	for _, x := range []struct {
		roots, reached, missing []string
	}{
		{nil, nil, nil},
		{[]string{"alone"}, []string{"alone"}, nil},
		{[]string{"own"}, []string{"own"}, nil},
		{[]string{"c"}, circle, []string{"out"}},
		{[]string{"d", "a", "a"}, circle, []string{"out"}},
		{[]string{"out"}, []string{"out"}, []string{"out"}},
		{[]string{"alone", "zz", "", "own", "a b", "\xff", "zz"}, []string{"", "a b", "alone", "own", "zz", "\xff"}, []string{"", "a b", "zz", "\xff"}},
		{[]string{"al", "alone!"}, []string{"al", "alone!"}, []string{"al", "alone!"}},
		{[]string{"", ""}, []string{""}, []string{""}},
	} {
		if l, e := link.Reached(chain(), x.roots); e != api.OK || !slices.Equal(l, x.reached) {
			t.Errorf("W3: %q: %q, %d", x.roots, l, e)
		}
		if l, e := link.Missing(chain(), x.roots); e != api.OK || !slices.Equal(l, x.missing) {
			t.Errorf("W3: %q: %q, %d", x.roots, l, e)
		}
		if _, e := link.Link(chain(), x.roots); (e == api.OK) != (len(x.missing) == 0) {
			t.Errorf("W4: %q: %d", x.roots, e)
		}
	}
}

// W4: parts without code, relocs at both ends of a part, and numbers that stand there.
func TestLink(t *testing.T) {
	l := []api.Object{
		object("z", bytesOf(0, 0, 0, 0), 0, "z", 2, "a"),
		object("b", nil),
		object("a", nil),
		object("y", bytesOf(8, 0, 0, 9, 0, 0), 1, "y"),
		object("x", bytesOf(1)),
		object("c", bytesOf(0, 0, 255), 0, "b"),
	}
	want := api.Image{
		Names: []string{"a", "b", "c", "y", "z"}, Starts: []int{0, 0, 0, 3, 9},
		Code: bytesOf(0, 1, 255, 8, 0, 3, 9, 0, 0, 0, 4, 0, 0),
	}
	roots := []string{"c", "y", "z"}
	if i, e := link.Link(l, roots); e != api.OK || !same(i, want) {
		t.Errorf("W4: %v, %d", i, e)
	}
	if i, e := link.Link(l, []string{"b"}); e != api.OK || !same(i, api.Image{Names: []string{"b"}, Starts: []int{0}}) {
		t.Errorf("W4: %v, %d", i, e)
	}
	if kept, e := link.Without(l, roots); e != api.OK || !same(kept, slices.Delete(copied(l), 4, 5)) {
		t.Errorf("W7: %v, %d", kept, e)
	}
	if kept, e := link.Without(l, nil); e != api.OK || len(kept) > 0 {
		t.Errorf("W7: %v, %d", kept, e)
	}
}

// W4: images that are not that of a library and roots, and ones that are none at all.
func TestCheckLink(t *testing.T) {
	for i, change := range []func(i *api.Image){
		func(i *api.Image) { *i = api.Image{} },
		func(i *api.Image) { i.Names[1] = "h" },
		func(i *api.Image) { i.Names[0], i.Names[1] = "g", "f" },
		func(i *api.Image) { i.Names = i.Names[:2] },
		func(i *api.Image) { i.Names = append(i.Names, "m") },
		func(i *api.Image) { i.Starts[1] = 4 },
		func(i *api.Image) { i.Starts[0] = -1 },
		func(i *api.Image) { i.Starts = i.Starts[:2] },
		func(i *api.Image) { i.Starts = append(i.Starts, 10) },
		func(i *api.Image) { i.Code[4] = 0 },
		func(i *api.Image) { i.Code[9] = 8 },
		func(i *api.Image) { i.Code = i.Code[:9] },
		func(i *api.Image) { i.Code = append(i.Code, 0) },
		func(i *api.Image) { i.Names, i.Starts = nil, nil },
	} {
		image := exampleImage()
		change(&image)
		if is, e := link.CheckLink(examples(), []string{"m"}, image); is || e != api.OK {
			t.Errorf("W4: %d: %v, %d", i, is, e)
		}
	}
	for _, x := range []struct {
		roots []string
		i     api.Image
		want  bool
	}{
		{[]string{"g", "m", "m"}, exampleImage(), true},
		{[]string{"f"}, exampleImage(), false},
		{nil, api.Image{}, true},
		{nil, api.Image{Code: bytesOf(0)}, false},
		{nil, exampleImage(), false},
		{[]string{"h"}, api.Image{}, false},
		{[]string{"h"}, api.Image{Names: []string{"h", "x"}, Starts: []int{0, 2}, Code: bytesOf(0, 1)}, false},
	} {
		if is, e := link.CheckLink(examples(), x.roots, x.i); is != x.want || e != api.OK {
			t.Errorf("W4: %q, %v: %v, %d", x.roots, x.i, is, e)
		}
	}
}

// isNoImage asks whether all functions refuse what is no image, also if their other arguments are wrong.
func isNoImage(t *testing.T, what string, i api.Image) {
	t.Helper()
	if e := link.CheckImage(i); e != api.ErrImage {
		t.Errorf("W5: %s: %d", what, e)
	}
	for _, name := range []string{"a", "", "none"} {
		if n, is, e := link.Number(i, name); n != 0 || is || e != api.ErrImage {
			t.Errorf("W5: %s: %d, %v, %d", what, n, is, e)
		}
	}
	for _, n := range []int{0, -1, 1 << 62} {
		if b, e := link.Part(i, n); len(b) > 0 || e != api.ErrImage {
			t.Errorf("W5: %s: %v, %d", what, b, e)
		}
	}
	if b, e := link.Write(i); len(b) > 0 || e != api.ErrImage {
		t.Errorf("W6: %s: %v, %d", what, b, e)
	}
}

func TestNoImages(t *testing.T) {
	four := bytesOf(1, 2, 3, 4)
	for what, i := range map[string]api.Image{
		"code alone":         {Code: bytesOf(0)},
		"starts alone":       {Starts: []int{0}},
		"names alone":        {Names: []string{"a"}},
		"names and code":     {Names: []string{"a"}, Code: four},
		"too few starts":     {Names: []string{"a", "b"}, Starts: []int{0}, Code: four},
		"too many starts":    {Names: []string{"a"}, Starts: []int{0, 1}, Code: four},
		"a late start":       {Names: []string{"a"}, Starts: []int{1}, Code: four},
		"a late start of 2":  {Names: []string{"a", "b"}, Starts: []int{1, 1}, Code: four},
		"an early start":     {Names: []string{"a"}, Starts: []int{-1}, Code: four},
		"descending starts":  {Names: []string{"a", "b", "c"}, Starts: []int{0, 2, 1}, Code: four},
		"below 0":            {Names: []string{"a", "b"}, Starts: []int{0, -1}, Code: four},
		"far below 0":        {Names: []string{"a", "b"}, Starts: []int{0, -1 << 63}, Code: four},
		"beyond":             {Names: []string{"a", "b"}, Starts: []int{0, 5}, Code: four},
		"far beyond":         {Names: []string{"a", "b"}, Starts: []int{0, 1<<63 - 1}, Code: four},
		"beyond in between":  {Names: []string{"a", "b", "c"}, Starts: []int{0, 9, 4}, Code: four},
		"beyond no code":     {Names: []string{"a", "b"}, Starts: []int{0, 1}},
		"one name twice":     {Names: []string{"a", "a"}, Starts: []int{0, 1}, Code: four},
		"descending names":   {Names: []string{"a", "c", "b"}, Starts: []int{0, 1, 2}, Code: four},
		"names by lengths":   {Names: []string{"b", "aa"}, Starts: []int{0, 1}, Code: four},
		"a name ahead of it": {Names: []string{"a", "Z"}, Starts: []int{0, 1}, Code: four},
	} {
		isNoImage(t, what, i)
	}
	for _, s := range noNames() {
		isNoImage(t, "a name", api.Image{Names: []string{s}, Starts: []int{0}})
		l := []string{"!", s}
		slices.Sort(l)
		isNoImage(t, "a name beside another one", api.Image{Names: l, Starts: []int{0, 0}})
	}
}

// W5: images that are not of a library are as said, too.
func TestImages(t *testing.T) {
	i := api.Image{Names: []string{"A", "a", "a$b", "aa", "b"}, Starts: []int{0, 0, 2, 5, 5}, Code: bytesOf(1, 2, 3, 4, 5)}
	for n, want := range [][]byte{nil, bytesOf(1, 2), bytesOf(3, 4, 5), nil, nil} {
		if b, e := link.Part(i, n); e != api.OK || !bytes.Equal(b, want) {
			t.Errorf("W5: %d: %v, %d", n, b, e)
		}
		if at, is, e := link.Number(i, i.Names[n]); at != n || !is || e != api.OK {
			t.Errorf("W5: %q: %d, %v, %d", i.Names[n], at, is, e)
		}
	}
	for _, name := range []string{"", "!", "B", "a$", "a$a", "a$bb", "ab", "c", "\xff", "a b", strings.Repeat("a", 200)} {
		if at, is, e := link.Number(i, name); at != 0 || is || e != api.OK {
			t.Errorf("W5: %q: %d, %v, %d", name, at, is, e)
		}
	}
	for _, n := range []int{-1, 5, -1 << 63, 1<<63 - 1} {
		if b, e := link.Part(i, n); len(b) > 0 || e != api.ErrArg {
			t.Errorf("W5: %d: %v, %d", n, b, e)
		}
	}
	if b, e := link.Part(api.Image{}, 0); len(b) > 0 || e != api.ErrArg {
		t.Errorf("W5: %v, %d", b, e)
	}
	if at, is, e := link.Number(api.Image{}, ""); at != 0 || is || e != api.OK {
		t.Errorf("W5: %d, %v, %d", at, is, e)
	}
	for _, s := range goodNames() {
		if e := link.CheckImage(api.Image{Names: []string{s}, Starts: []int{0}, Code: bytesOf(1)}); e != api.OK {
			t.Errorf("W5: %q: %d", s, e)
		}
	}
}

// W6: the bytes of an image, written out.
func TestBytes(t *testing.T) {
	i := api.Image{Names: []string{"a", "main"}, Starts: []int{0, 258}, Code: slices.Concat(make([]byte, 258), bytesOf(7, 8))}
	want := slices.Concat(bytesOf(2, 1, 'a', 0, 0, 0, 0, 4, 'm', 'a', 'i', 'n', 0, 0, 1, 2), make([]byte, 258), bytesOf(7, 8))
	if b, e := link.Write(i); e != api.OK || !bytes.Equal(b, want) {
		t.Errorf("W6: %v, %d", b, e)
	}
	if back, e := link.Read(want); e != api.OK || !same(back, i) {
		t.Errorf("W6: %v, %d", back, e)
	}
	if b, e := link.Write(api.Image{}); e != api.OK || !bytes.Equal(b, bytesOf(0)) {
		t.Errorf("W6: %v, %d", b, e)
	}
}

// W6: bytes of no image.
func TestNoBytes(t *testing.T) {
	for what, b := range map[string][]byte{
		"nothing":             nil,
		"code without names":  bytesOf(0, 0),
		"no name":             bytesOf(1),
		"half a name":         bytesOf(1, 2, 'a'),
		"no start":            bytesOf(1, 1, 'a'),
		"half a start":        bytesOf(1, 1, 'a', 0, 0, 0),
		"an empty name":       bytesOf(1, 0, 0, 0, 0, 0),
		"a blank":             bytesOf(1, 1, ' ', 0, 0, 0, 0),
		"the second missing":  bytesOf(2, 1, 'a', 0, 0, 0, 0),
		"the second halved":   bytesOf(2, 1, 'a', 0, 0, 0, 0, 1, 'b', 0, 0),
		"one name twice":      bytesOf(2, 1, 'a', 0, 0, 0, 0, 1, 'a', 0, 0, 0, 0),
		"descending names":    bytesOf(2, 1, 'b', 0, 0, 0, 0, 1, 'a', 0, 0, 0, 0),
		"descending starts":   bytesOf(3, 1, 'a', 0, 0, 0, 0, 1, 'b', 0, 0, 0, 2, 1, 'c', 0, 0, 0, 1, 7, 7),
		"a late start":        bytesOf(1, 1, 'a', 0, 0, 0, 1, 7),
		"beyond":              bytesOf(2, 1, 'a', 0, 0, 0, 0, 1, 'b', 0, 0, 0, 2, 7),
		"far beyond":          bytesOf(2, 1, 'a', 0, 0, 0, 0, 1, 'b', 1, 0, 0, 0, 7),
		"the greatest start":  bytesOf(2, 1, 'a', 0, 0, 0, 0, 1, 'b', 255, 255, 255, 255, 7),
		"a start below 0":     bytesOf(1, 1, 'a', 255, 255, 255, 255, 7),
		"the greatest count":  bytesOf(255),
		"the greatest length": bytesOf(1, 255, 'a', 0, 0, 0, 0),
	} {
		if i, e := link.Read(b); e != api.ErrForm || !same(i, api.Image{}) {
			t.Errorf("W6: %s: %v, %d", what, i, e)
		}
	}
	for _, s := range noNames() {
		if i, e := link.Read(slices.Concat(bytesOf(1, len(s)), []byte(s), bytesOf(0, 0, 0, 0))); e != api.ErrForm || !same(i, api.Image{}) {
			t.Errorf("W6: %q: %v, %d", s, i, e)
		}
	}
}
