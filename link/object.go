package link

import (
	"cmp"
	"iter"
	"slices"

	"argus/api"
)

const (
	maxName   = 120
	maxRelocs = 2000
	// relocWidth is how many bytes the number of a routine has.
	relocWidth = 2
)

// isName reports whether a text is a name: it has visible bytes alone.
func isName(s string) bool {
	for i := range len(s) {
		if s[i] < 33 || s[i] > 126 {
			return false
		}
	}
	return s != "" && len(s) <= maxName
}

// object is one that may not be as said.
type object struct{ api.Object }

// isAsSaid stops at the first check that fails: a later one may ask for what an earlier one has found.
func (o object) isAsSaid() bool {
	for _, is := range [5]func(object) bool{object.isNamed, object.isShort, object.isApart, object.hasRoom, object.needsNames} {
		if !is(o) {
			return false
		}
	}
	return true
}

func (o object) isNamed() bool { return isName(o.Name) }

func (o object) isShort() bool { return len(o.Code) <= api.MaxCode && len(o.Relocs) <= maxRelocs }

// isApart reports whether all relocs lie in the code, one behind the other.
func (o object) isApart() bool {
	from, last := 0, len(o.Code)-relocWidth
	for _, r := range o.Relocs {
		if r.At < from || r.At > last {
			return false
		}
		from = r.At + relocWidth
	}
	return true
}

// hasRoom reports whether zeros stand at all relocs.
func (o object) hasRoom() bool {
	for _, r := range o.Relocs {
		if number(at(o.Code, r)) != 0 {
			return false
		}
	}
	return true
}

func (o object) needsNames() bool {
	for name := range o.needs() {
		if !isName(name) {
			return false
		}
	}
	return true
}

// needs yields the name of each reloc.
func (o object) needs() iter.Seq[string] {
	return func(yield func(string) bool) {
		for _, r := range o.Relocs {
			if !yield(r.Name) {
				return
			}
		}
	}
}

// at returns the bytes of a reloc.
func at(code []byte, r api.Reloc) []byte {
	end := r.At + relocWidth
	return code[r.At:end:end]
}

// number returns the number that stands in bytes, the greatest one first.
func number(b []byte) int {
	n := 0
	for _, x := range b {
		n = n<<8 | int(x)
	}
	return n
}

// setNumber writes a number into bytes.
func setNumber(b []byte, n int) {
	for i := range b {
		b[len(b)-1-i] = byte(n >> (8 * i))
	}
}

// sorted returns what is yielded, ascending, each once.
func sorted[T cmp.Ordered](all iter.Seq[T]) []T {
	return slices.Compact(slices.Sorted(all))
}
