package opt

import (
	"slices"

	"argus/api"
)

// span is a range: the numbers from low to high. There are none if low is greater.
type span struct{ low, high int }

var (
	all   = span{-api.MaxInt, api.MaxInt}
	none  = span{1, 0}
	truth = span{0, 1}
)

func just(n int) span { return span{n, n} }

func (s span) isNone() bool { return s.low > s.high }

// has reports whether all numbers of another span are in one.
func (s span) has(t span) bool { return t.isNone() || s.low <= t.low && t.high <= s.high }

// meets reports whether two spans, which are not empty, have a number in common.
func (s span) meets(t span) bool { return s.low <= t.high && t.low <= s.high }

func (s span) mayBeZero() bool { return s.low <= 0 && 0 <= s.high }

func (s span) mayBeTrue() bool { return !s.isNone() && s != just(0) }

// with returns the least span that has all numbers of two.
func (s span) with(t span) span {
	switch {
	case s.isNone():
		return t
	case t.isNone():
		return s
	}
	return span{min(s.low, t.low), max(s.high, t.high)}
}

// inLimits returns the numbers of a span that a word can have.
func (s span) inLimits() span { return span{max(s.low, all.low), min(s.high, all.high)} }

// truths returns the span of what may be 0 and may be 1.
func truths(mayBeZero, mayBeOne bool) span {
	s := none
	if mayBeZero {
		s = s.with(just(0))
	}
	if mayBeOne {
		s = s.with(just(1))
	}
	return s
}

// between returns the numbers from the least to the greatest that comes of an end of each of two spans.
func between(a, b span, do func(m, n int) int) span {
	l := [...]int{do(a.low, b.low), do(a.low, b.high), do(a.high, b.low), do(a.high, b.high)}
	return span{slices.Min(l[:]), slices.Max(l[:])}
}

func add(m, n int) int      { return m + n }
func subtract(m, n int) int { return m - n }
func multiply(m, n int) int { return m * n }

// divide returns a quotient, rounded down, of a number by one above 0.
func divide(m, n int) int {
	q := m / n
	if m%n < 0 {
		q--
	}
	return q
}
