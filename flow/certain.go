package flow

import (
	"slices"

	"argus/api"
)

// bits tells which registers, and behind these which slots, are written for certain.
type bits [(api.MaxRegs + api.MaxSlots + 63) / 64]uint64

func (b *bits) add(i int) { b[i/64] |= 1 << (i % 64) }

func (b *bits) has(i int) bool { return b[i/64]>>(i%64)&1 == 1 }

// both returns what is in both.
func (b *bits) both(c *bits) bits {
	var out bits
	for i := range b {
		out[i] = b[i] & c[i]
	}
	return out
}

// either returns what is in one of both.
func (b *bits) either(c *bits) bits {
	var out bits
	for i := range b {
		out[i] = b[i] | c[i]
	}
	return out
}

// slot returns the place of a slot among the bits.
func slot(n int) int { return api.MaxRegs + n }

// write adds what an instruction writes.
func (b *bits) write(x *api.Ins) {
	if to := writtenBy(x); to >= 0 {
		b.add(to)
	}
	if x.Op == api.InsSpill {
		b.add(slot(x.N))
	}
}

// canDo reports whether what an instruction reads is written.
func (b *bits) canDo(x *api.Ins) bool {
	for reg := range readBy(x) {
		if !b.has(reg) {
			return false
		}
	}
	return x.Op != api.InsLoad || b.has(slot(x.N))
}

// onWay returns what is written on the way of an end to a block.
func (b bits) onWay(e *api.End, block int) bits {
	ways := 0
	for to := range targets(e) {
		if to == block {
			ways++
		}
	}
	if to := writtenByEnd(e); to >= 0 && block == e.To && ways == 1 {
		b.add(to)
	}
	return b
}

// certain returns what is written for certain where each block begins; it is nil for blocks to which no way leads.
func certain(f *api.Flow) []*bits {
	at, inside := make([]*bits, len(f.Blocks)), writtenInside(f)
	at[0] = new(bits)
	for i := range f.Args {
		at[0].add(i)
	}
	isWaiting := make([]bool, len(f.Blocks))
	for waiting := []int{0}; len(waiting) > 0; waiting = waiting[1:] {
		now := waiting[0]
		isWaiting[now] = false
		out, e := at[now].either(&inside[now]), &f.Blocks[now].End
		for to := range targets(e) {
			next := out.onWay(e, to)
			if at[to] != nil {
				next = next.both(at[to])
			}
			if at[to] != nil && *at[to] == next {
				continue
			}
			at[to] = &next
			if !isWaiting[to] {
				isWaiting[to] = true
				waiting = append(waiting, to)
			}
		}
	}
	return at
}

// writtenInside returns what the instructions of each block write.
func writtenInside(f *api.Flow) []bits {
	l := make([]bits, len(f.Blocks))
	for i := range f.Blocks {
		for j := range f.Blocks[i].Ins {
			l[i].write(&f.Blocks[i].Ins[j])
		}
	}
	return l
}

// readsWritten reports whether all that is read is written for certain, in a flow that is as said.
func readsWritten(f *api.Flow) bool {
	ahead := aheads(f)
	for i, at := range certain(f) {
		if at != nil && !isBlockWritten(f, ahead, i, *at) {
			return false
		}
	}
	return true
}

// isBlockWritten looks at what a block reads, and at what the phis behind it read on the way from it.
func isBlockWritten(f *api.Flow, ahead [][]int, block int, at bits) bool {
	b := &f.Blocks[block]
	for i := range b.Ins {
		if !at.canDo(&b.Ins[i]) {
			return false
		}
		at.write(&b.Ins[i])
	}
	for reg := range readByEnd(&b.End) {
		if !at.has(reg) {
			return false
		}
	}
	for to := range targets(&b.End) {
		written := at.onWay(&b.End, to)
		place, _ := slices.BinarySearch(ahead[to], block)
		for i := range phis(&f.Blocks[to]) {
			if !written.has(f.Blocks[to].Ins[i].Args[place]) {
				return false
			}
		}
	}
	return true
}

// phis returns how many phis a block has.
func phis(b *api.Block) int {
	n := 0
	for n < len(b.Ins) && b.Ins[n].Op == api.InsPhi {
		n++
	}
	return n
}
