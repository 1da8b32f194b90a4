package opt

import (
	"slices"

	"argus/api"
	"argus/dom"
	"argus/flow"
)

// search looks for facts about a flow. As long as it does, a block is taken for one that is never entered until an end may
// lead to it, and the range of a register has what was found so far: what stands in a loop is seen to follow from itself.
type search struct {
	*known
	order   []int         // the blocks that count, each behind those that dominate it
	changes int           // that were made so far
	grown   []int         // how often the range of each register was
	leaders []int         // beside each register one that always has its value, or unseen
	firsts  map[key][]int // by what they are made of, the registers that are led by themselves
}

// key is what an instruction makes a word of.
type key struct {
	op uint8
	n  int
	of [2]int // the leaders of what is read
}

const (
	// patience is how often the range of a phi grows before it is taken for one that grows up to the limit.
	patience = 8
	unseen   = -1
)

func newSearch(g *graph) *search {
	s := &search{known: unsaid(g), grown: make([]int, len(g.Regs)), leaders: slices.Repeat([]int{unseen}, len(g.Regs))}
	s.order, _ = dom.Order(*g.Flow)
	for b := range s.isNever {
		s.isNever[b] = b != 0
	}
	for reg := range s.Regs {
		if s.writers[reg].block >= 0 {
			s.spans[reg] = none
		}
	}
	return s
}

// find returns facts about a flow that hold.
func find(g *graph) []api.Fact {
	s := newSearch(g)
	asLongAs(s.findSpans())
	l := s.certain()
	s.lead()
	s.keep(maxFacts - len(l))
	for reg, of := range s.stands {
		if of >= 0 {
			l = append(l, same(reg, of))
		}
	}
	return l
}

// asLongAs does something as long as it changes something.
func asLongAs(isChanged func() bool) {
	for isChanged() {
	}
}

// changing returns what does something for each block that may be entered, and reports whether there were changes.
func (s *search) changing(do func(block int)) func() bool {
	return func() bool {
		before := s.changes
		for _, b := range s.order {
			if !s.isNever[b] {
				do(b)
			}
		}
		return s.changes != before
	}
}

// findSpans returns what lets the ranges grow, and the blocks be entered, by what is known so far.
func (s *search) findSpans() func() bool {
	return s.changing(func(block int) {
		for _, reg := range written(&s.Blocks[block]) {
			if s.Regs[reg] == api.RegWord {
				s.grow(reg, s.numbers(reg))
			}
		}
		for to := range s.leads(block) {
			if s.isNever[to] {
				s.isNever[to] = false
				s.changes++
			}
		}
	})
}

// grow lets the range of a register have some numbers.
func (s *search) grow(reg int, numbers span) {
	if numbers.isNone() {
		// What can only overflow may have any range.
		numbers = just(0)
	}
	old := s.spans[reg]
	now := old.with(numbers)
	if now == old {
		return
	}
	s.changes++
	s.grown[reg]++
	if s.by(reg).Op == api.InsPhi && s.grown[reg] > patience {
		if now.low < old.low {
			now.low = all.low
		}
		if now.high > old.high {
			now.high = all.high
		}
	}
	s.spans[reg] = now
}

// certain returns the facts about ranges and blocks. They do not depend on which registers are the same.
func (s *search) certain() []api.Fact {
	var l []api.Fact
	for reg, w := range s.writers {
		switch {
		case w.block < 0 || s.Regs[reg] != api.RegWord:
		case s.isInstruction(reg) && s.by(reg).Op == api.InsWord:
			l = append(l, within(reg, just(s.by(reg).N)))
		case !s.isNever[w.block] && s.spans[reg] != all:
			l = append(l, within(reg, s.spans[reg]))
		}
	}
	for b, isNever := range s.isNever {
		if isNever {
			l = append(l, never(b))
		}
	}
	return l
}

// lead finds the leaders of registers. On the first round those that come to a phi from behind are unseen, and are taken for
// what the others are; the rounds end at the latest when each register could have become a leader of its own.
func (s *search) lead() {
	for i := range s.Args {
		s.leaders[i] = i
	}
	follow := s.changing(s.follow)
	rounds := 0
	asLongAs(func() bool {
		s.firsts = map[key][]int{}
		rounds++
		return follow() && rounds <= len(s.Regs)
	})
	for reg, leader := range s.leaders {
		if leader != reg && leader != unseen {
			s.stands[reg] = leader
			s.same[reg].add(leader)
		}
	}
}

// follow finds the leaders of what a block writes.
func (s *search) follow(block int) {
	for _, reg := range written(&s.Blocks[block]) {
		leader := reg
		if s.isInstruction(reg) {
			leader = s.leader(s.by(reg))
		}
		if leader != s.leaders[reg] {
			s.leaders[reg] = leader
			s.changes++
		}
	}
}

// leader returns the leader of what an instruction writes, or unseen if it is made of what is unseen alone.
func (s *search) leader(x *api.Ins) int {
	leader := x.To
	switch {
	case x.Op == api.InsMove:
		leader = s.leaders[x.A]
	case x.Op == api.InsPhi:
		leader = s.leaderOfArgs(x)
	case isPure(x.Op):
		return s.first(x)
	}
	if leader == unseen || s.standsAhead(leader, x.To) {
		return leader
	}
	return x.To
}

// leaderOfArgs returns the one leader of all that a phi may take, but for itself, or the phi's To if there are more.
func (s *search) leaderOfArgs(x *api.Ins) int {
	leader, block := unseen, s.writers[x.To].block
	for i, from := range s.ahead[block] {
		arg := s.leaders[x.Args[i]]
		switch {
		case arg == unseen || arg == x.To || arg == leader || !s.mayLead(from, block):
		case leader == unseen:
			leader = arg
		default:
			return x.To
		}
	}
	return leader
}

// first returns the first register that stands ahead of an instruction and is made of the same, or that which it writes.
func (s *search) first(x *api.Ins) int {
	k := key{op: x.Op, n: x.N}
	for i, reg := range flow.Reads(*x) {
		if k.of[i] = s.leaders[reg]; k.of[i] == unseen {
			return unseen
		}
	}
	for _, reg := range s.firsts[k] {
		if s.standsAhead(reg, x.To) {
			return reg
		}
	}
	s.firsts[k] = append(s.firsts[k], x.To)
	return x.To
}

// keep leaves out what is more than there is room for of what stands for registers, and what does not follow. What is
// written last is left out first: little follows from it.
func (s *search) keep(room int) {
	for _, b := range s.order {
		for _, reg := range written(&s.Blocks[b]) {
			if s.stands[reg] < 0 {
				continue
			}
			if room--; room < 0 {
				s.forget(reg)
			}
		}
	}
	asLongAs(func() bool {
		before := s.changes
		for reg, of := range s.stands {
			if of >= 0 && !s.sameFollows(same(reg, of)) {
				s.forget(reg)
			}
		}
		return s.changes != before
	})
}

// forget leaves out what stands for a register.
func (s *search) forget(reg int) {
	s.stands[reg], s.same[reg] = -1, set{}
	s.changes++
}
