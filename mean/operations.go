package mean

import "argus/api"

// operands are what an operation that is built in works on: its arguments, and the index of the part that its name has.
type operands struct {
	*run
	args []api.Value
	part int
}

type builtIn func(o operands) (api.Value, leaving)

// operation names an operation that is built in: the kind of its type, and its name up to that of a part.
type operation struct {
	of   uint8
	name string
}

func builtIns() map[operation]builtIn {
	return map[operation]builtIn{
		{api.TypInt, "add"}:   operands.add,
		{api.TypInt, "sub"}:   operands.sub,
		{api.TypInt, "mul"}:   operands.mul,
		{api.TypInt, "div"}:   operands.div,
		{api.TypInt, "mod"}:   operands.mod,
		{api.TypInt, "lt"}:    operands.lt,
		{api.TypInt, "le"}:    operands.le,
		{api.TypInt, "equal"}: operands.equal,

		{api.TypBool, "and"}:   operands.and,
		{api.TypBool, "or"}:    operands.or,
		{api.TypBool, "not"}:   operands.not,
		{api.TypBool, "equal"}: operands.equal,

		{api.TypNull, "equal"}: operands.equal,

		{api.TypArray, "new"}:   operands.newArray,
		{api.TypArray, "size"}:  operands.size,
		{api.TypArray, "addh"}:  operands.addh,
		{api.TypArray, "remh"}:  operands.remh,
		{api.TypArray, "fetch"}: operands.fetch,
		{api.TypArray, "store"}: operands.store,
		{api.TypArray, "equal"}: operands.equal,

		{api.TypRecord, "make"}:  operands.makeRecord,
		{api.TypRecord, "get"}:   operands.get,
		{api.TypRecord, "set"}:   operands.set,
		{api.TypRecord, "equal"}: operands.equal,

		{api.TypOneof, "make"}:  operands.makeOneof,
		{api.TypOneof, "is"}:    operands.is,
		{api.TypOneof, "equal"}: operands.equal,
	}
}

func number(n int) api.Value { return api.Value{Kind: api.ValInt, N: n} }

func truth(b bool) api.Value {
	v := api.Value{Kind: api.ValBool}
	if b {
		v.N = 1
	}
	return v
}

func isTrue(v api.Value) bool { return v.N == 1 }

// signal is what an operation that signals returns.
func signal(name string) (api.Value, leaving) { return api.Value{}, signalled{name} }

// limited returns an int, or signals that it is beyond the limits. Products are more than an int may hold where that has 32 bits.
func limited(n int64) (api.Value, leaving) {
	if n < -api.MaxInt || n > api.MaxInt {
		return signal("overflow")
	}
	return number(int(n)), nil
}

// ints returns the first two arguments.
func (o operands) ints() (a, b int64) { return int64(o.args[0].N), int64(o.args[1].N) }

func (o operands) add() (api.Value, leaving) {
	a, b := o.ints()
	return limited(a + b)
}

func (o operands) sub() (api.Value, leaving) {
	a, b := o.ints()
	return limited(a - b)
}

func (o operands) mul() (api.Value, leaving) {
	a, b := o.ints()
	return limited(a * b)
}

func (o operands) div() (api.Value, leaving) {
	a, b := o.ints()
	if b == 0 {
		return signal("zerodivide")
	}
	return limited((a - remainder(a, b)) / b)
}

func (o operands) mod() (api.Value, leaving) {
	a, b := o.ints()
	if b == 0 {
		return signal("zerodivide")
	}
	return limited(remainder(a, b))
}

// remainder returns what is left of a, which is never below 0.
func remainder(a, b int64) int64 {
	r := a % b
	if r < 0 {
		r += max(b, -b)
	}
	return r
}

func (o operands) lt() (api.Value, leaving) { return truth(o.args[0].N < o.args[1].N), nil }

func (o operands) le() (api.Value, leaving) { return truth(o.args[0].N <= o.args[1].N), nil }

func (o operands) equal() (api.Value, leaving) { return truth(o.args[0] == o.args[1]), nil }

func (o operands) and() (api.Value, leaving) {
	return truth(isTrue(o.args[0]) && isTrue(o.args[1])), nil
}

func (o operands) or() (api.Value, leaving) {
	return truth(isTrue(o.args[0]) || isTrue(o.args[1])), nil
}

func (o operands) not() (api.Value, leaving) { return truth(!isTrue(o.args[0])), nil }

// object returns the object that the first argument refers to.
func (o operands) object() *api.Obj { return &o.heap[o.args[0].N] }

func (o operands) newArray() (api.Value, leaving) { return o.made(api.ObjArray, 0, nil), nil }

func (o operands) size() (api.Value, leaving) { return number(len(o.object().Vals)), nil }

func (o operands) addh() (api.Value, leaving) {
	array := o.object()
	if len(array.Vals) == api.MaxArray {
		return signal("overflow")
	}
	array.Vals = append(array.Vals, o.args[1])
	return api.Value{}, nil
}

func (o operands) remh() (api.Value, leaving) {
	array := o.object()
	last := len(array.Vals) - 1
	if last < 0 {
		return signal("bounds")
	}
	v := array.Vals[last]
	array.Vals = array.Vals[:last]
	return v, nil
}

// element returns where the element is whose index is the second argument: nil beyond the bounds.
func (o operands) element() *api.Value {
	vals, i := o.object().Vals, o.args[1].N
	if i < 1 || i > len(vals) {
		return nil
	}
	return &vals[i-1]
}

func (o operands) fetch() (api.Value, leaving) {
	v := o.element()
	if v == nil {
		return signal("bounds")
	}
	return *v, nil
}

func (o operands) store() (api.Value, leaving) {
	v := o.element()
	if v == nil {
		return signal("bounds")
	}
	*v = o.args[2]
	return api.Value{}, nil
}

func (o operands) makeRecord() (api.Value, leaving) { return o.made(api.ObjRecord, 0, o.args), nil }

func (o operands) get() (api.Value, leaving) { return o.object().Vals[o.part], nil }

func (o operands) set() (api.Value, leaving) {
	o.object().Vals[o.part] = o.args[1]
	return api.Value{}, nil
}

func (o operands) makeOneof() (api.Value, leaving) { return o.made(api.ObjOneof, o.part, o.args), nil }

func (o operands) is() (api.Value, leaving) { return truth(o.object().Tag == o.part), nil }
