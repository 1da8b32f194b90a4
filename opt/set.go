package opt

import (
	"math/bits"

	"argus/api"
)

// set is a set of registers.
type set [(api.MaxRegs + 63) / 64]uint64

func (s *set) add(reg int) { s[reg/64] |= 1 << (reg % 64) }

func (s *set) has(reg int) bool { return s[reg/64]>>(reg%64)&1 == 1 }

// meets reports whether two sets have a register in common.
func (s *set) meets(t *set) bool {
	for i := range s {
		if s[i]&t[i] != 0 {
			return true
		}
	}
	return false
}

// list returns what is in a set, ascending.
func (s *set) list() []int {
	var l []int
	for i, word := range s {
		for ; word != 0; word &= word - 1 {
			l = append(l, 64*i+bits.TrailingZeros64(word))
		}
	}
	return l
}
