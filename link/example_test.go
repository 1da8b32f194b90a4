package link_test

import (
	"bytes"
	"testing"

	"argus/api"
	"argus/link"
)

// The chapter's objects.

func exampleM() api.Object { return object("m", bytesOf(7, 0, 0, 9), 1, "f") }

func exampleF() api.Object { return object("f", bytesOf(1, 0, 0, 0, 0), 1, "f", 3, "g") }

func exampleG() api.Object { return object("g", bytesOf(5)) }

func exampleH() api.Object { return object("h", bytesOf(0, 0), 0, "x") }

func examples() []api.Object {
	return []api.Object{exampleM(), exampleF(), exampleG(), exampleH()}
}

func TestExamplesOfObjects(t *testing.T) {
	if at, e := link.CheckAll(examples()); at != 0 || e != api.OK {
		t.Errorf("W1: %d, %d", at, e)
	}
	near, full := exampleF(), exampleM()
	near.Relocs[1].At = 2
	full.Code[1] = 1
	for _, o := range []api.Object{near, full} {
		if e := link.Check(o); e != api.ErrObject {
			t.Errorf("W1: %v: %d", o, e)
		}
		if at, e := link.CheckAll([]api.Object{exampleG(), o}); at != 1 || e != api.ErrObject {
			t.Errorf("W1: %v: %d, %d", o, at, e)
		}
	}
}

// names is what some functions return.
type names struct {
	l []string
	e api.Errno
}

func got(l []string, e api.Errno) names { return names{l, e} }

func TestExamplesOfNames(t *testing.T) {
	l := examples()
	for what, x := range map[string]struct {
		got  names
		want []string
	}{
		"Needs(f)":   {got(link.Needs(exampleF())), []string{"f", "g"}},
		"Reached(m)": {got(link.Reached(l, []string{"m"})), []string{"f", "g", "m"}},
		"Missing(m)": {got(link.Missing(l, []string{"m"})), nil},
		"Missing(h)": {got(link.Missing(l, []string{"h"})), []string{"x"}},
	} {
		if !same(x.got, names{x.want, api.OK}) {
			t.Errorf("%s: %q, %d, not %q", what, x.got.l, x.got.e, x.want)
		}
	}
}

func exampleImage() api.Image {
	return api.Image{Names: []string{"f", "g", "m"}, Starts: []int{0, 5, 6}, Code: bytesOf(1, 0, 0, 0, 1, 5, 7, 0, 0, 9)}
}

func TestExamplesOfImages(t *testing.T) {
	l := examples()
	i, e := link.Link(l, []string{"m"})
	if e != api.OK || !same(i, exampleImage()) {
		t.Errorf("W4: %v, %d", i, e)
	}
	if is, e := link.CheckLink(l, []string{"m"}, exampleImage()); !is || e != api.OK {
		t.Errorf("W4: %v, %d", is, e)
	}
	if i, e := link.Link(l, []string{"m", "h"}); e != api.ErrMissing || !same(i, api.Image{}) {
		t.Errorf("W4: %v, %d", i, e)
	}
	if i, e := link.Link(l, nil); e != api.OK || !same(i, api.Image{}) {
		t.Errorf("W4: %v, %d", i, e)
	}
	if n, is, e := link.Number(i, "g"); n != 1 || !is || e != api.OK {
		t.Errorf("W5: %d, %v, %d", n, is, e)
	}
	for n, want := range [][]byte{bytesOf(1, 0, 0, 0, 1), bytesOf(5), bytesOf(7, 0, 0, 9)} {
		if b, e := link.Part(i, n); e != api.OK || !bytes.Equal(b, want) {
			t.Errorf("W5: %d: %v, %d", n, b, e)
		}
	}
}

func TestExamplesOfBytes(t *testing.T) {
	g := must[api.Image](t, "g")(link.Link(examples(), []string{"g"}))
	if b, e := link.Write(g); e != api.OK || !bytes.Equal(b, bytesOf(1, 1, 103, 0, 0, 0, 0, 5)) {
		t.Errorf("W6: %v, %d", b, e)
	}
	if i, e := link.Read(bytesOf(1, 1, 103, 0, 0, 0, 0, 5)); e != api.OK || !same(i, g) {
		t.Errorf("W6: %v, %d", i, e)
	}
	if i, e := link.Read(bytesOf(0)); e != api.OK || !same(i, api.Image{}) {
		t.Errorf("W6: %v, %d", i, e)
	}
	for _, b := range [][]byte{bytesOf(0, 1), bytesOf(1, 1, 103, 0, 0, 0, 1, 5)} {
		if i, e := link.Read(b); e != api.ErrForm || !same(i, api.Image{}) {
			t.Errorf("W6: %v: %v, %d", b, i, e)
		}
	}
}

func TestExampleOfWithout(t *testing.T) {
	l := []api.Object{exampleH(), exampleM(), exampleG(), exampleF()}
	if kept, e := link.Without(l, []string{"m"}); e != api.OK || !same(kept, l[1:]) {
		t.Errorf("W7: %v, %d", kept, e)
	}
}
