package color

import (
	"iter"
	"math/bits"

	"argus/api"
)

// set is a set of registers.
type set [(api.MaxRegs + 63) / 64]uint64

func setOf(l ...int) set {
	var s set
	for _, reg := range l {
		s.add(reg)
	}
	return s
}

func (s *set) add(reg int) { s[reg/64] |= 1 << (reg % 64) }

func (s *set) drop(reg int) { s[reg/64] &^= 1 << (reg % 64) }

func (s *set) has(reg int) bool { return s[reg/64]>>(reg%64)&1 == 1 }

func (s set) or(t set) set {
	for i := range s {
		s[i] |= t[i]
	}
	return s
}

func (s set) and(t set) set {
	for i := range s {
		s[i] &= t[i]
	}
	return s
}

func (s set) without(t set) set {
	for i := range s {
		s[i] &^= t[i]
	}
	return s
}

func (s set) isEmpty() bool { return s == set{} }

func (s set) size() int {
	n := 0
	for _, word := range s {
		n += bits.OnesCount64(word)
	}
	return n
}

// each yields what is in a set, ascending.
func (s set) each() iter.Seq[int] {
	return func(yield func(reg int) bool) {
		for i, word := range s {
			for rest := word; rest != 0; rest &= rest - 1 {
				if !yield(64*i + bits.TrailingZeros64(rest)) {
					return
				}
			}
		}
	}
}
