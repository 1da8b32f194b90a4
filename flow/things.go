package flow

import "argus/api"

// cell is what a register, a slot, a field or an element holds: a word, or a thing to which it refers.
type cell struct {
	word  int
	thing thing
}

// thing is what there is in a run: objects, which are arrays or have fields, frames, and iterations.
type thing interface {
	// place returns where a thing keeps a value of some kind, or nil if it has no such place.
	place(n int, kind uint8) *cell
}

// array is an object for words or for references.
type array struct {
	kind     uint8
	elements []cell
}

func (a *array) place(n int, kind uint8) *cell {
	if kind != a.kind || !isIn(n, 0, len(a.elements)-1) {
		return nil
	}
	return &a.elements[n]
}

// record is an object with a tag and fields.
type record struct {
	tag    int
	kinds  []uint8
	fields []cell
}

func (r *record) place(n int, kind uint8) *cell {
	if !isIn(n, 0, len(r.fields)-1) || kind != r.kinds[n] {
		return nil
	}
	return &r.fields[n]
}

// routine is a flow, and beside each of its blocks those ahead of it.
type routine struct {
	*api.Flow
	ahead [][]int
}

// frame is a procedure or an iterator that is run: its block is the one with which it goes on.
type frame struct {
	*machine
	code        *routine
	regs, slots []cell
	block       int
}

// place returns a slot.
func (f *frame) place(n int, kind uint8) *cell {
	if !isIn(n, 0, len(f.slots)-1) || kind != f.code.Slots[n] {
		return nil
	}
	return &f.slots[n]
}

// iteration is the frame of an iterator, as long as it can be resumed.
type iteration struct {
	*frame
	isOver bool
}
