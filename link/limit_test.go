package link_test

import (
	"bytes"
	"slices"
	"strconv"
	"strings"
	"testing"

	"argus/api"
	"argus/link"
)

// many returns objects with ascending names, each of which needs the next one, and has a number of bytes.
func many(n, size int) []api.Object {
	var l []api.Object
	for i := range n {
		o := object("n"+strconv.Itoa(1000+i), make([]byte, size))
		if i < n-1 {
			o.Relocs = []api.Reloc{{At: size - 2, Name: "n" + strconv.Itoa(1000+i+1)}}
		}
		l = append(l, o)
	}
	return l
}

// W1, W3, W4: there are at most 60 objects, and 60 roots.
func TestMostObjects(t *testing.T) {
	for n := 58; n <= 62; n++ {
		l := many(n, 4)
		at, errs := errorsOf(t, l, []string{"n1000"}, api.Image{})
		want := api.OK
		if n > 60 {
			want = api.ErrLimit
		}
		if at != 0 || !slices.Equal(errs, all(want)) {
			t.Errorf("W1: %d: %d, %v", n, at, errs)
		}
		var roots []string
		for _, o := range l {
			roots = append(roots, o.Name)
		}
		if reached, e := link.Reached(l[:50], roots); e != want || (e == api.OK) != slices.Equal(reached, roots) {
			t.Errorf("W3: %d: %q, %d", n, reached, e)
		}
	}
	// That there are too many comes ahead of what they are.
	bad := slices.Repeat([]api.Object{{}}, 61)
	if at, e := link.CheckAll(bad); at != 0 || e != api.ErrLimit {
		t.Errorf("W1: %d, %d", at, e)
	}
	if at, e := link.CheckAll(bad[:60]); at != 0 || e != api.ErrObject {
		t.Errorf("W1: %d, %d", at, e)
	}
	twice := append(many(59, 4), many(1, 4)...)
	if at, e := link.CheckAll(twice); at != 59 || e != api.ErrTwice {
		t.Errorf("W1: %d, %d", at, e)
	}
}

// W1: code has at most 20000 bytes.
func TestMostCode(t *testing.T) {
	for n := 19998; n <= 20002; n++ {
		o := object("a", make([]byte, n), n-2, "a")
		e := link.Check(o)
		if (e == api.OK) != (n <= 20000) {
			t.Errorf("W1: %d: %d", n, e)
		}
		if n > 20000 {
			isRefused(t, strconv.Itoa(n)+" bytes", o)
		}
	}
	isRefused(t, "many bytes", object("a", make([]byte, 1<<24)))
}

// W1, W2: an object has at most 2000 relocs.
func TestMostRelocs(t *testing.T) {
	o := api.Object{Name: "a", Code: make([]byte, 4003)}
	for i := range 2000 {
		o.Relocs = append(o.Relocs, api.Reloc{At: 1 + 2*i, Name: "n" + strconv.Itoa(i*7%2000)})
	}
	l, e := link.Needs(o)
	if e != api.OK || len(l) != 2000 || !slices.Equal(l, plainNeeds(o)) {
		t.Errorf("W2: %d, %d", len(l), e)
	}
	o.Relocs = append(o.Relocs, api.Reloc{At: 4001, Name: "a"})
	isRefused(t, "2001 relocs", o)
	o.Relocs = make([]api.Reloc, 1<<20)
	isRefused(t, "many relocs", o)
}

// W3: what is reached may be more than a library has: 60 objects with 2000 names each.
func TestMostNames(t *testing.T) {
	var l []api.Object
	var want []string
	for i := range 60 {
		o := api.Object{Name: "o" + strconv.Itoa(i), Code: make([]byte, 4000)}
		for k := range 2000 {
			name := "n" + strconv.Itoa(2000*i+k)
			o.Relocs = append(o.Relocs, api.Reloc{At: 2 * k, Name: name})
			want = append(want, name)
		}
		// One of all leads on.
		o.Relocs[i].Name = "o" + strconv.Itoa(i+1)
		want[2000*i+i] = o.Relocs[i].Name
		l = append(l, o)
	}
	slices.Sort(want)
	missing := slices.DeleteFunc(slices.Clone(want), func(s string) bool { return s[0] == 'o' && s != "o60" })
	isLibrary(t, l)
	reached, e := link.Reached(l, []string{"o0"})
	if want = append(want, "o0"); e != api.OK || !slices.Equal(reached, sortedNames(want)) {
		t.Errorf("W3: %d, not %d, %d", len(reached), len(want), e)
	}
	if got, e := link.Missing(l, []string{"o0"}); e != api.OK || !slices.Equal(got, missing) {
		t.Errorf("W3: %d, not %d, %d", len(got), len(missing), e)
	}
	if i, e := link.Link(l, []string{"o0"}); e != api.ErrMissing || !same(i, api.Image{}) {
		t.Errorf("W4: %d", e)
	}
}

func sortedNames(l []string) []string {
	l = slices.Clone(l)
	slices.Sort(l)
	return l
}

// W4 to W6: the largest image.
func TestLargestImage(t *testing.T) {
	l := many(60, 20000)
	for i := range l {
		l[i].Code[7] = byte(i + 100)
	}
	slices.Reverse(l)
	i, e := link.Link(l, []string{"n1000"})
	want, _ := plainLink(l, []string{"n1000"})
	if e != api.OK || len(i.Names) != 60 || len(i.Code) != 1200000 || !same(i, want) {
		t.Fatalf("W4: %d, %d, %d", len(i.Names), len(i.Code), e)
	}
	if at := i.Starts[59]; at != 59*20000 || !bytes.Equal(i.Code[58*20000+19998:][:2], bytesOf(0, 59)) {
		t.Errorf("W4: %d", at)
	}
	if part, e := link.Part(i, 59); e != api.OK || len(part) != 20000 || part[7] != 159 {
		t.Errorf("W5: %d, %d", len(part), e)
	}
	if n, is, e := link.Number(i, "n1059"); n != 59 || !is || e != api.OK {
		t.Errorf("W5: %d, %v, %d", n, is, e)
	}
	b, e := link.Write(i)
	if e != api.OK || !bytes.Equal(b, plainWrite(i)) || len(b) != 1+60*(1+5+4)+1200000 {
		t.Fatalf("W6: %d, %d", len(b), e)
	}
	if back, e := link.Read(b); e != api.OK || !same(back, i) {
		t.Errorf("W6: %d", e)
	}
	if back, e := link.Read(append(b, 0)); e != api.ErrForm || !same(back, api.Image{}) {
		t.Errorf("W6: %d", e)
	}
	i.Code = append(i.Code, 0)
	isNoImage(t, "too much code", i)
}

// W5, W6: an image has at most 60 names; parts of one that is of no library may have any length.
func TestMostNamesOfImages(t *testing.T) {
	i := api.Image{Code: make([]byte, 1200000)}
	for n := range 60 {
		i.Names = append(i.Names, strings.Repeat(string(rune('0'+n)), 120))
		i.Starts = append(i.Starts, min(n, 1)*1200000)
	}
	if e := link.CheckImage(i); e != api.OK {
		t.Fatalf("W5: %d", e)
	}
	b, e := link.Write(i)
	if e != api.OK || !bytes.Equal(b, plainWrite(i)) {
		t.Errorf("W6: %d", e)
	}
	if back, e := link.Read(b); e != api.OK || !same(back, i) {
		t.Errorf("W6: %d", e)
	}
	if part, e := link.Part(i, 0); e != api.OK || len(part) != 1200000 {
		t.Errorf("W5: %d, %d", len(part), e)
	}
	i.Names, i.Starts = append(i.Names, "~"), append(i.Starts, 1200000)
	isNoImage(t, "61 names", i)
	if back, e := link.Read(plainWrite(i)); e != api.ErrForm || !same(back, api.Image{}) {
		t.Errorf("W6: %d", e)
	}
	isNoImage(t, "many names", api.Image{Names: make([]string, 1<<20), Starts: make([]int, 1<<20)})
	isNoImage(t, "much code", api.Image{Names: []string{"a"}, Starts: []int{0}, Code: make([]byte, 1<<24)})
}

// W6, R1: however many bytes there are.
func TestManyBytes(t *testing.T) {
	for _, b := range [][]byte{make([]byte, 1<<24), bytes.Repeat(bytesOf(255), 1<<20), bytes.Repeat(bytesOf(60), 1<<20), bytes.Repeat(bytesOf(1), 300)} {
		if i, e := link.Read(b); e != api.ErrForm || !same(i, api.Image{}) {
			t.Errorf("W6: %d bytes: %d", len(b), e)
		}
	}
}
