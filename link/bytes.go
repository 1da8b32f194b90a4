package link

import (
	"bytes"

	"argus/api"
)

// startWidth is how many bytes the start of a part has.
const startWidth = 4

// Write returns the bytes of an image.
func Write(i api.Image) ([]byte, api.Errno) {
	if e := CheckImage(i); e != api.OK {
		return nil, e
	}
	var w writer
	w.WriteByte(byte(len(i.Names)))
	for n, name := range i.Names {
		w.WriteByte(byte(len(name)))
		w.WriteString(name)
		w.start(i.Starts[n])
	}
	w.Write(i.Code)
	return w.Bytes(), api.OK
}

// writer writes behind what it has.
type writer struct{ bytes.Buffer }

func (w *writer) start(n int) {
	var b [startWidth]byte
	setNumber(b[:], n)
	w.Write(b[:])
}

// Read returns the image with some bytes.
func Read(b []byte) (i api.Image, e api.Errno) {
	defer func() {
		if recover() != nil {
			i, e = api.Image{}, api.ErrForm
		}
	}()
	r := reader{left: b}
	return r.image(), api.OK
}

// torn is what a reader gives up with where bytes are those of no image.
type torn struct{}

// reader reads what is left of some bytes.
type reader struct{ left []byte }

func (r *reader) take(n int) []byte {
	if n > len(r.left) {
		panic(torn{})
	}
	b := r.left[:n:n]
	r.left = r.left[n:]
	return b
}

func (r *reader) number(width int) int { return number(r.take(width)) }

func (r *reader) image() api.Image {
	var i api.Image
	for range r.number(1) {
		name := r.take(r.number(1))
		i.Names = append(i.Names, string(name))
		i.Starts = append(i.Starts, r.number(startWidth))
	}
	i.Code = r.left
	if CheckImage(i) != api.OK {
		panic(torn{})
	}
	i.Code = copied(i.Code)
	return i
}
