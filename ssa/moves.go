package ssa

import "argus/api"

const (
	maxMoves    = 100
	maxSequence = 300
)

// checkMoves tells whether a list of moves is a set of moves, of registers that may be.
func checkMoves(l []api.Pair) api.Errno {
	if len(l) > maxMoves {
		return api.ErrLimit
	}
	isWritten := map[int]bool{}
	for _, m := range l {
		if m.To < 0 || m.From < 0 || isWritten[m.To] {
			return api.ErrArg
		}
		isWritten[m.To] = true
	}
	return api.OK
}

// checkSpare tells whether there is besides a register that no move has.
func checkSpare(l []api.Pair, spare int) api.Errno {
	if e := checkMoves(l); e != api.OK {
		return e
	}
	if spare < 0 {
		return api.ErrArg
	}
	for _, m := range l {
		if m.To == spare || m.From == spare {
			return api.ErrArg
		}
	}
	return api.OK
}

// sequence puts a set of moves in sequence.
type sequence struct {
	waiting map[int]api.Pair // what is not done yet, by what it writes
	readers map[int]int      // how many of these read a register
	copies  map[int]int      // where else is what a register held at first
	done    []api.Pair
}

func newSequence(l []api.Pair) *sequence {
	s := &sequence{waiting: map[int]api.Pair{}, readers: map[int]int{}, copies: map[int]int{}}
	for _, m := range l {
		if m.To != m.From {
			s.waiting[m.To] = m
			s.readers[m.From]++
		}
	}
	return s
}

func (s *sequence) move(to, from int) { s.done = append(s.done, api.Pair{To: to, From: from}) }

// free does a move if nothing that waits reads what it writes, and then those on which only it kept others waiting.
func (s *sequence) free(m api.Pair) {
	isWaiting := s.isWaiting(m)
	for isWaiting && s.readers[m.To] == 0 {
		s.move(m.To, m.From)
		s.readers[m.From]--
		s.copies[m.From] = m.To
		delete(s.waiting, m.To)
		m, isWaiting = s.waiting[m.From]
	}
}

func (s *sequence) isWaiting(m api.Pair) bool {
	other, is := s.waiting[m.To]
	return is && other == m
}

// circle returns a circle of moves that wait, each of which reads what the next one writes.
func (s *sequence) circle(first api.Pair) []api.Pair {
	l := []api.Pair{first}
	for m := s.waiting[first.From]; m != first; m = s.waiting[m.From] {
		l = append(l, m)
	}
	return l
}

// turn does a circle. It begins with a register of which there is a copy, and ends with the move that reads this copy.
func (s *sequence) turn(l []api.Pair, spare func(of int) int) {
	start := 0
	for i, m := range l {
		if _, hasCopy := s.copies[m.To]; hasCopy {
			start = i
		}
	}
	first := l[start].To
	if _, hasCopy := s.copies[first]; !hasCopy {
		s.copies[first] = spare(first)
		s.move(s.copies[first], first)
	}
	for i := range l {
		m := l[(start+i)%len(l)]
		delete(s.waiting, m.To)
		if m.From == first {
			m.From = s.copies[first]
		}
		s.move(m.To, m.From)
	}
}

// inSequence returns as few moves as there can be that do a set of moves; spare gives a register for a circle in which some one is.
func inSequence(l []api.Pair, spare func(of int) int) []api.Pair {
	s := newSequence(l)
	for _, m := range l {
		s.free(m)
	}
	// What reads a register of a circle without being in it is done: what waits are circles.
	for _, m := range l {
		if s.isWaiting(m) {
			s.turn(s.circle(m), spare)
		}
	}
	return s.done
}

// Sequence returns moves that do one after the other what a set of moves does at once.
func Sequence(l []api.Pair, spare int) ([]api.Pair, api.Errno) {
	if e := checkSpare(l, spare); e != api.OK {
		return nil, e
	}
	always := func(int) int { return spare }
	return inSequence(l, always), api.OK
}

// Least returns how many moves are needed for a set of moves.
func Least(l []api.Pair) (int, api.Errno) {
	if e := checkMoves(l); e != api.OK {
		return 0, e
	}
	none := func(int) int { return -1 }
	return len(inSequence(l, none)), api.OK
}

// CheckSequence reports whether some moves do one after the other what a set of moves does at once.
func CheckSequence(l []api.Pair, spare int, s []api.Pair) (bool, api.Errno) {
	if e := checkSpare(l, spare); e != api.OK {
		return false, e
	}
	if len(s) > maxSequence {
		return false, api.ErrLimit
	}
	return does(s, l, spare), api.OK
}

// does reports whether moves, of any registers, leave in those of a set what is to be there, and write no others but spare.
func does(s, l []api.Pair, spare int) bool {
	holds := map[int]int{spare: spare} // whose first value is in the registers that may be written
	for _, m := range l {
		holds[m.To] = m.To
	}
	for _, m := range s {
		if _, mayBe := holds[m.To]; !mayBe {
			return false
		}
		value, isKept := holds[m.From]
		if !isKept {
			value = m.From
		}
		holds[m.To] = value
	}
	for _, m := range l {
		if holds[m.To] != m.From {
			return false
		}
	}
	return true
}
