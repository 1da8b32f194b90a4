package flow

import (
	"iter"

	"argus/api"
)

// field tells what stands in a field for a register.
type field uint8

const (
	noReg    field = 0 // the field is 0
	wordReg        = field(api.RegWord)
	refReg         = field(api.RegRef)
	iterReg        = field(api.RegIter)
	valueReg field = 4 // a word or a reference
	likeTo   field = 5 // of the kind of To
	likeA    field = 6 // of the kind of A
	returned field = 7 // of the kind Result; -1 if nothing is returned
	yielded  field = 8 // of the kind Result, in an iterator
	maybeReg field = 9 // a word or a reference, or -1
)

// number tells what N is.
type number uint8

const (
	noNumber  number = 0
	anyInt    number = 1
	flag      number = 2 // 0 or 1
	index     number = 3 // of a field, or a tag
	slotForTo number = 4 // a slot of the kind of To
	slotForA  number = 5 // a slot of the kind of A
)

// list tells what Args are.
type list uint8

const (
	noArgs  list = 0
	oneArg  list = 1
	fields  list = 2 // from 1 to 6
	phiArgs list = 3 // one for each block ahead, of the kind of To
)

// shape tells what the fields of an instruction are.
type shape struct {
	to, a, b field
	n        number
	args     list
}

var shapes = [...]shape{
	api.InsWord:  {to: wordReg, n: anyInt},
	api.InsMove:  {to: valueReg, a: likeTo},
	api.InsLt:    {to: wordReg, a: wordReg, b: wordReg},
	api.InsLe:    {to: wordReg, a: wordReg, b: wordReg},
	api.InsEq:    {to: wordReg, a: valueReg, b: likeA},
	api.InsAnd:   {to: wordReg, a: wordReg, b: wordReg},
	api.InsOr:    {to: wordReg, a: wordReg, b: wordReg},
	api.InsNot:   {to: wordReg, a: wordReg},
	api.InsNew:   {to: refReg, n: flag},
	api.InsMake:  {to: refReg, n: index, args: fields},
	api.InsGet:   {to: valueReg, a: refReg, n: index},
	api.InsSet:   {a: refReg, b: valueReg, n: index},
	api.InsTag:   {to: wordReg, a: refReg},
	api.InsSize:  {to: wordReg, a: refReg},
	api.InsPut:   {a: wordReg},
	api.InsClose: {a: iterReg},
	api.InsLoad:  {to: valueReg, n: slotForTo},
	api.InsSpill: {a: valueReg, n: slotForA},
	api.InsPhi:   {to: valueReg, args: phiArgs},
	api.TryAdd:   {to: wordReg, a: wordReg, b: wordReg},
	api.TrySub:   {to: wordReg, a: wordReg, b: wordReg},
	api.TryMul:   {to: wordReg, a: wordReg, b: wordReg},
	api.TryDiv:   {to: wordReg, a: wordReg, b: wordReg},
	api.TryMod:   {to: wordReg, a: wordReg, b: wordReg},
	api.TryAddh:  {a: refReg, b: valueReg},
	api.TryRemh:  {to: valueReg, a: refReg},
	api.TryFetch: {to: valueReg, a: refReg, b: wordReg},
	api.TryStore: {a: refReg, b: wordReg, args: oneArg},
}

// shapeOf returns the shape of an instruction, which is empty for an Op that there is not.
func shapeOf(op uint8) shape {
	if int(op) < len(shapes) {
		return shapes[op]
	}
	return shape{}
}

func isTry(op uint8) bool { return op >= api.TryAdd }

// endShape tells what the fields of an end are; A and B are read, unless it says that one is written.
type endShape struct {
	a, b                    field
	writesA, writesB        bool
	to, orElse, handles     bool
	tries, signals, isACall bool
}

var endShapes = [...]endShape{
	api.EndGoto:   {to: true},
	api.EndIf:     {a: wordReg, to: true, orElse: true},
	api.EndReturn: {a: returned},
	api.EndSignal: {signals: true},
	api.EndTry:    {tries: true, to: true, handles: true},
	api.EndCall:   {isACall: true, a: maybeReg, writesA: true, to: true, handles: true},
	api.EndOpen:   {isACall: true, a: iterReg, writesA: true, to: true},
	api.EndNext:   {a: iterReg, b: valueReg, writesB: true, to: true, orElse: true, handles: true},
	api.EndYield:  {a: yielded, to: true},
}

// endShapeOf returns the shape of an end, which is empty for a Kind that there is not.
func endShapeOf(kind uint8) endShape {
	if int(kind) < len(endShapes) {
		return endShapes[kind]
	}
	return endShape{}
}

// readBy yields the registers that an instruction reads: A, B, Args, but for those of a phi.
func readBy(x *api.Ins) iter.Seq[int] {
	s := shapeOf(x.Op)
	return func(yield func(reg int) bool) {
		if s.a != noReg && !yield(x.A) || s.b != noReg && !yield(x.B) || s.args == noArgs || s.args == phiArgs {
			return
		}
		for _, reg := range x.Args {
			if !yield(reg) {
				return
			}
		}
	}
}

// readsA reports whether an end reads its A, whatever number that is: only where something may be returned does -1 say that there is none.
func (s endShape) readsA(x *api.End) bool {
	switch s.a {
	case noReg:
		return false
	case returned:
		return x.A != -1
	}
	return !s.writesA
}

// readByEnd yields the registers that an end reads.
func readByEnd(x *api.End) iter.Seq[int] {
	s := endShapeOf(x.Kind)
	if s.tries {
		return readBy(&x.Ins)
	}
	return func(yield func(reg int) bool) {
		if s.readsA(x) && !yield(x.A) || !s.isACall {
			return
		}
		for _, reg := range x.Args {
			if !yield(reg) {
				return
			}
		}
	}
}

// writtenBy returns the register that an instruction writes, or -1.
func writtenBy(x *api.Ins) int {
	if shapeOf(x.Op).to == noReg {
		return -1
	}
	return x.To
}

// writtenByEnd returns the register that an end writes on its way to To, or -1.
func writtenByEnd(x *api.End) int {
	s := endShapeOf(x.Kind)
	switch {
	case s.tries:
		return writtenBy(&x.Ins)
	case s.writesA:
		return x.A
	case s.writesB:
		return x.B
	}
	return -1
}
