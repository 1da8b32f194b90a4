package code

import "bytes"

// writer writes code behind what it has.
type writer struct{ bytes.Buffer }

func (w *writer) at() int { return w.Len() }

// number writes the last bytes of a number, the greatest first.
func (w *writer) number(width, n int) {
	for i := width - 1; i >= 0; i-- {
		w.WriteByte(byte(n >> (8 * i)))
	}
}

func (w *writer) flag(is *bool) {
	if *is {
		w.number(1, 1)
	} else {
		w.number(1, 0)
	}
}

func (w *writer) sort(sort *uint8) { w.WriteByte(*sort) }

func (w *writer) small(n *int) { w.number(1, *n) }

func (w *writer) index(n *int) { w.number(2, *n) }

func (w *writer) none(*int) {}

func (w *writer) word(n *int) { w.number(4, *n) }

func (w *writer) name(s *string) {
	w.number(1, len(*s))
	w.WriteString(*s)
}

// routine leaves room: the numbers of routines are not known yet.
func (w *writer) routine(*string) { w.number(2, 0) }

func (w *writer) many(width, n int) int {
	w.number(width, n)
	return n
}
