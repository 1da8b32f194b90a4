package opt

import (
	"slices"

	"argus/api"
	"argus/flow"
)

// rules returns, by Op, which numbers an instruction may write that writes a word; those that have no rule may write all.
func rules() map[uint8]func(*known, *api.Ins) span {
	return map[uint8]func(*known, *api.Ins) span{
		api.InsWord: (*known).ofWord,
		api.InsMove: (*known).ofMove,
		api.InsLt:   (*known).ofLt,
		api.InsLe:   (*known).ofLe,
		api.InsEq:   (*known).ofEq,
		api.InsAnd:  (*known).ofAnd,
		api.InsOr:   (*known).ofOr,
		api.InsNot:  (*known).ofNot,
		api.InsTag:  (*known).ofTag,
		api.InsSize: (*known).ofSize,
		api.InsPhi:  (*known).ofPhi,
		api.TryAdd:  (*known).ofSum,
		api.TrySub:  (*known).ofSum,
		api.TryMul:  (*known).ofSum,
		api.TryDiv:  (*known).ofDiv,
		api.TryMod:  (*known).ofMod,
	}
}

// numbers returns which numbers may be written to a word that has a writer.
func (k *known) numbers(reg int) span {
	x := k.by(reg)
	if rule, has := k.rules[x.Op]; has {
		return rule(k, x)
	}
	return all
}

// both returns the ranges of A and B.
func (k *known) both(x *api.Ins) (a, b span) { return k.spans[x.A], k.spans[x.B] }

func (k *known) ofWord(x *api.Ins) span { return just(x.N) }

func (k *known) ofMove(x *api.Ins) span { return k.spans[x.A] }

func (k *known) ofLt(x *api.Ins) span {
	a, b := k.both(x)
	return truths(a.high >= b.low, a.low < b.high)
}

func (k *known) ofLe(x *api.Ins) span {
	a, b := k.both(x)
	return truths(a.high > b.low, a.low <= b.high)
}

func (k *known) ofEq(x *api.Ins) span {
	a, b := k.both(x)
	if k.Regs[x.A] != api.RegWord {
		return truth
	}
	return truths(a != b || a.low < a.high, a.meets(b))
}

func (k *known) ofAnd(x *api.Ins) span {
	a, b := k.both(x)
	return truths(a.mayBeZero() || b.mayBeZero(), a.mayBeTrue() && b.mayBeTrue())
}

func (k *known) ofOr(x *api.Ins) span {
	a, b := k.both(x)
	return truths(a.mayBeZero() && b.mayBeZero(), a.mayBeTrue() || b.mayBeTrue())
}

func (k *known) ofNot(x *api.Ins) span {
	a := k.spans[x.A]
	return truths(a.mayBeTrue(), a.mayBeZero())
}

func (k *known) ofTag(*api.Ins) span { return span{0, api.MaxFields - 1} }

func (k *known) ofSize(*api.Ins) span { return span{0, api.MaxArray} }

func (k *known) ofPhi(x *api.Ins) span {
	s, block := none, k.writers[x.To].block
	for i, from := range k.ahead[block] {
		if k.mayLead(from, block) {
			s = s.with(k.spans[x.Args[i]])
		}
	}
	return s
}

// sums returns the sums, differences or products, whether a word can have them or not.
func (k *known) sums(x *api.Ins) span {
	a, b := k.both(x)
	switch x.Op {
	case api.TryAdd:
		return between(a, b, add)
	case api.TrySub:
		return between(a, b, subtract)
	}
	return between(a, b, multiply)
}

func (k *known) ofSum(x *api.Ins) span { return k.sums(x).inLimits() }

func (k *known) ofDiv(x *api.Ins) span {
	a, b := k.both(x)
	if b.low <= 0 {
		return all
	}
	return between(a, b, divide)
}

func (k *known) ofMod(x *api.Ins) span {
	b := k.spans[x.B]
	return span{0, max(-b.low, b.high, 1) - 1}
}

// rangeFollows reports whether a fact about the range of a register does.
func (k *known) rangeFollows(x api.Fact) bool {
	s, w := span{x.Low, x.High}, k.writers[x.Reg]
	switch {
	case w.block < 0:
		return x.Reg >= k.Args || s == all
	case k.isNever[w.block]:
		return true
	}
	return s.has(k.numbers(x.Reg))
}

// neverFollows reports whether a fact about a block does.
func (k *known) neverFollows(x api.Fact) bool { return x.Reg != 0 && !k.mayBeEntered(x.Reg) }

// sameFollows reports whether a fact about two registers does.
func (k *known) sameFollows(x api.Fact) bool {
	w := k.writers[x.Reg]
	if w.block < 0 || !k.standsAhead(x.Of, x.Reg) {
		return false
	}
	return k.isNever[w.block] || k.isInstruction(x.Reg) && k.writesSame(k.by(x.Reg), x.Of)
}

// writesSame reports whether an instruction writes what a register has that stands ahead of it.
func (k *known) writesSame(x *api.Ins, of int) bool {
	switch {
	case x.Op == api.InsMove:
		return k.isOrSame(x.A, of)
	case x.Op == api.InsPhi:
		return k.takesSame(x, of)
	case isPure(x.Op) && k.isInstruction(of):
		y := k.by(of)
		return x.Op == y.Op && x.N == y.N && slices.EqualFunc(flow.Reads(*x), flow.Reads(*y), k.areAlike)
	}
	return false
}

// isOrSame reports whether a register is another one, or is said to be the same as that.
func (k *known) isOrSame(reg, of int) bool { return reg == of || k.same[reg].has(of) }

// takesSame reports whether a phi takes nothing but what a register has, or what it has itself.
func (k *known) takesSame(x *api.Ins, of int) bool {
	block := k.writers[x.To].block
	for i, from := range k.ahead[block] {
		if arg := x.Args[i]; arg != x.To && !k.isOrSame(arg, of) && k.mayLead(from, block) {
			return false
		}
	}
	return true
}

// areAlike reports whether two registers are one, or one is said to be the same as the other one, or both as a third one.
func (k *known) areAlike(a, b int) bool {
	return k.isOrSame(a, b) || k.isOrSame(b, a) || k.same[a].meets(&k.same[b])
}

// isPure reports whether what an instruction writes depends only on what it reads, and on what never changes.
func isPure(op uint8) bool {
	switch op {
	case api.InsWord, api.InsLt, api.InsLe, api.InsEq, api.InsAnd, api.InsOr, api.InsNot, api.InsTag:
		return true
	}
	return false
}
