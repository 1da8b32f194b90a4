package flow

import (
	"slices"

	"argus/api"
)

// instructions returns what instructions do, by Op.
func instructions() map[uint8]func(*frame, *api.Ins) {
	return map[uint8]func(*frame, *api.Ins){
		api.InsWord:  (*frame).doWord,
		api.InsMove:  (*frame).doMove,
		api.InsLt:    (*frame).doLt,
		api.InsLe:    (*frame).doLe,
		api.InsEq:    (*frame).doEq,
		api.InsAnd:   (*frame).doAnd,
		api.InsOr:    (*frame).doOr,
		api.InsNot:   (*frame).doNot,
		api.InsNew:   (*frame).doNew,
		api.InsMake:  (*frame).doMake,
		api.InsGet:   (*frame).doGet,
		api.InsSet:   (*frame).doSet,
		api.InsTag:   (*frame).doTag,
		api.InsSize:  (*frame).doSize,
		api.InsPut:   (*frame).doPut,
		api.InsClose: (*frame).doClose,
		api.InsLoad:  (*frame).doLoad,
		api.InsSpill: (*frame).doSpill,
	}
}

func (f *frame) word(reg int) int { return f.regs[reg].word }

// truth writes 1 or 0.
func (f *frame) truth(to int, is bool) {
	f.regs[to].word = 0
	if is {
		f.regs[to].word = 1
	}
}

func (f *frame) doWord(x *api.Ins) { f.regs[x.To].word = x.N }
func (f *frame) doMove(x *api.Ins) { f.regs[x.To] = f.regs[x.A] }
func (f *frame) doLt(x *api.Ins)   { f.truth(x.To, f.word(x.A) < f.word(x.B)) }
func (f *frame) doLe(x *api.Ins)   { f.truth(x.To, f.word(x.A) <= f.word(x.B)) }
func (f *frame) doAnd(x *api.Ins)  { f.truth(x.To, f.word(x.A) != 0 && f.word(x.B) != 0) }
func (f *frame) doOr(x *api.Ins)   { f.truth(x.To, f.word(x.A) != 0 || f.word(x.B) != 0) }
func (f *frame) doNot(x *api.Ins)  { f.truth(x.To, f.word(x.A) == 0) }
func (f *frame) doPut(x *api.Ins)  { f.ran.Put = append(f.ran.Put, f.word(x.A)) }

func (f *frame) doEq(x *api.Ins) {
	a, b := f.regs[x.A], f.regs[x.B]
	isNone := a.thing == nil || b.thing == nil
	f.truth(x.To, a.word == b.word && (isNone || a.thing == b.thing))
}

func (f *frame) doNew(x *api.Ins) {
	a := &array{kind: api.RegWord}
	if x.N == 1 {
		a.kind = api.RegRef
	}
	f.regs[x.To] = f.made(a)
}

func (f *frame) doMake(x *api.Ins) {
	f.regs[x.To] = f.made(&record{
		tag:    x.N,
		kinds:  each(x.Args, f.kind),
		fields: each(x.Args, func(reg int) cell { return f.regs[reg] }),
	})
}

func (f *frame) doGet(x *api.Ins) { mustBe(f.take(x.To, f.record(x.A), x.N)) }
func (f *frame) doSet(x *api.Ins) { mustBe(f.give(x.B, f.record(x.A), x.N)) }
func (f *frame) doTag(x *api.Ins) { f.regs[x.To].word = f.record(x.A).tag }

func (f *frame) doSize(x *api.Ins) {
	a, is := f.regs[x.A].thing.(*array)
	mustBe(is)
	f.regs[x.To].word = len(a.elements)
}

func (f *frame) doClose(x *api.Ins) {
	i, is := f.regs[x.A].thing.(*iteration)
	mustBe(is)
	i.isOver = true
}

func (f *frame) doLoad(x *api.Ins)  { mustBe(f.take(x.To, f, x.N)) }
func (f *frame) doSpill(x *api.Ins) { mustBe(f.give(x.A, f, x.N)) }

func (f *frame) kind(reg int) uint8 { return f.code.Regs[reg] }

// mustBe is stuck where something is not so.
func mustBe(is bool) {
	if !is {
		panic(stuck{})
	}
}

// record returns the object with fields to which a register refers.
func (f *frame) record(reg int) *record {
	r, is := f.regs[reg].thing.(*record)
	mustBe(is)
	return r
}

// array returns the array, for values of a kind, to which a register refers.
func (f *frame) array(reg int, kind uint8) *array {
	a, is := f.regs[reg].thing.(*array)
	mustBe(is && a.kind == kind)
	return a
}

// take writes what a thing keeps in a place to a register; it reports whether there is such a place.
func (f *frame) take(to int, from thing, n int) bool {
	p := from.place(n, f.kind(to))
	if p != nil {
		f.regs[to] = *p
	}
	return p != nil
}

// give lets a thing keep what is in a register; it reports whether there is such a place.
func (f *frame) give(reg int, to thing, n int) bool {
	p := to.place(n, f.kind(reg))
	if p != nil {
		*p = f.regs[reg]
	}
	return p != nil
}

// tries returns what instructions do that may signal, by Op: they return the signal, or an empty text.
func tries() map[uint8]func(*frame, *api.Ins) string {
	return map[uint8]func(*frame, *api.Ins) string{
		api.TryAdd:   (*frame).tryAdd,
		api.TrySub:   (*frame).trySub,
		api.TryMul:   (*frame).tryMul,
		api.TryDiv:   (*frame).tryDiv,
		api.TryMod:   (*frame).tryMod,
		api.TryAddh:  (*frame).tryAddh,
		api.TryRemh:  (*frame).tryRemh,
		api.TryFetch: (*frame).tryFetch,
		api.TryStore: (*frame).tryStore,
	}
}

func (f *frame) tryAdd(x *api.Ins) string { return f.number(x.To, f.word(x.A)+f.word(x.B)) }
func (f *frame) trySub(x *api.Ins) string { return f.number(x.To, f.word(x.A)-f.word(x.B)) }
func (f *frame) tryMul(x *api.Ins) string { return f.number(x.To, f.word(x.A)*f.word(x.B)) }

// number writes a number, unless it is beyond the limits.
func (f *frame) number(to, n int) string {
	if !isIn(n, -api.MaxInt, api.MaxInt) {
		return "overflow"
	}
	f.regs[to].word = n
	return ""
}

func (f *frame) tryDiv(x *api.Ins) string {
	if f.word(x.B) == 0 {
		return "zerodivide"
	}
	q, _ := divided(f.word(x.A), f.word(x.B))
	return f.number(x.To, q)
}

// tryMod needs no look at the quotient: it is never beyond the limits if both numbers are not.
func (f *frame) tryMod(x *api.Ins) string {
	if f.word(x.B) == 0 {
		return "zerodivide"
	}
	_, r := divided(f.word(x.A), f.word(x.B))
	return f.number(x.To, r)
}

// divided returns the quotient, and the rest, which is never negative.
func divided(a, b int) (int, int) {
	q, r := a/b, a%b
	switch {
	case r < 0 && b > 0:
		return q - 1, r + b
	case r < 0:
		return q + 1, r - b
	}
	return q, r
}

func (f *frame) tryAddh(x *api.Ins) string {
	a := f.array(x.A, f.kind(x.B))
	if len(a.elements) == api.MaxArray {
		return "overflow"
	}
	a.elements = append(a.elements, f.regs[x.B])
	return ""
}

func (f *frame) tryRemh(x *api.Ins) string {
	a := f.array(x.A, f.kind(x.To))
	last := len(a.elements) - 1
	if !f.take(x.To, a, last) {
		return "bounds"
	}
	a.elements = slices.Delete(a.elements, last, last+1)
	return ""
}

func (f *frame) tryFetch(x *api.Ins) string {
	return signalUnless(f.take(x.To, f.array(x.A, f.kind(x.To)), f.word(x.B)-1))
}

func (f *frame) tryStore(x *api.Ins) string {
	reg := x.Args[0]
	return signalUnless(f.give(reg, f.array(x.A, f.kind(reg)), f.word(x.B)-1))
}

func signalUnless(isThere bool) string {
	if isThere {
		return ""
	}
	return "bounds"
}
