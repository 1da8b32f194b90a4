package code_test

import (
	"reflect"
	"slices"
	"strings"

	"argus/api"
	"argus/flow"
)

// The chapter's tables, in its words. (N4 is the N of InsWord; the routine stands in Name.)

func plainFields(op uint8) string {
	switch op {
	case api.InsWord:
		return "To N4"
	case api.InsMove, api.InsNot, api.InsTag, api.InsSize, api.TryRemh:
		return "To A"
	case api.InsLt, api.InsLe, api.InsEq, api.InsAnd, api.InsOr, api.TryAdd, api.TrySub, api.TryMul, api.TryDiv, api.TryMod, api.TryFetch:
		return "To A B"
	case api.InsNew, api.InsLoad:
		return "To N"
	case api.InsMake:
		return "To N Args"
	case api.InsGet:
		return "To A N"
	case api.InsSet:
		return "A B N"
	case api.InsPut, api.InsClose:
		return "A"
	case api.InsSpill:
		return "A N"
	case api.TryAddh:
		return "A B"
	case api.TryStore:
		return "A B Args"
	}
	return ""
}

func plainFieldsOfEnd(kind uint8) string {
	switch kind {
	case api.EndGoto:
		return "To"
	case api.EndIf:
		return "A To Else"
	case api.EndReturn:
		return "A"
	case api.EndSignal:
		return "Name"
	case api.EndTry:
		return "Ins To handlers"
	case api.EndCall:
		return "routine Args A To handlers"
	case api.EndOpen:
		return "routine Args A To"
	case api.EndNext:
		return "A B To Else handlers"
	case api.EndYield:
		return "A To"
	}
	return ""
}

// plainWriter writes code by the tables.
type plainWriter struct {
	code   []byte
	calls  []api.Reloc
	blocks []int
}

func (w *plainWriter) byte(n int) { w.code = append(w.code, byte(n)) }

func (w *plainWriter) two(n int) {
	if n == -1 {
		n = 65535
	}
	w.byte(n / 256)
	w.byte(n % 256)
}

func (w *plainWriter) four(n int) {
	if n < 0 {
		n += 4294967296
	}
	w.two(n / 65536)
	w.byte(n / 256 % 256)
	w.byte(n % 256)
}

func (w *plainWriter) name(s string) {
	w.byte(len(s))
	w.code = append(w.code, s...)
}

func (w *plainWriter) fields(v reflect.Value, fields string) {
	number := func(name string) int { return int(v.FieldByName(name).Int()) }
	for _, name := range strings.Fields(fields) {
		switch name {
		case "N":
			w.byte(number("N"))
		case "N4":
			w.four(number("N"))
		case "Args":
			args := v.FieldByName(name)
			w.byte(args.Len())
			for i := range args.Len() {
				w.two(int(args.Index(i).Int()))
			}
		case "Name":
			w.name(v.FieldByName(name).String())
		case "routine":
			w.calls = append(w.calls, api.Reloc{At: len(w.code), Name: v.FieldByName("Name").String()})
			w.two(0)
		case "Ins":
			w.ins(v.FieldByName(name).Interface().(api.Ins))
		case "handlers":
			whens := v.FieldByName("Whens").Interface().([]api.When)
			w.byte(len(whens))
			for _, when := range whens {
				w.name(when.Name)
				w.two(when.To)
			}
			w.two(number("Others"))
		default:
			w.two(number(name))
		}
	}
}

func (w *plainWriter) ins(x api.Ins) {
	w.byte(int(x.Op))
	w.fields(reflect.ValueOf(x), plainFields(x.Op))
}

// plainCode returns the code of a valid flow without phis, the places of routines with their names, and those of blocks.
func plainCode(f api.Flow) plainWriter {
	var w plainWriter
	if f.Iter {
		w.byte(1)
	} else {
		w.byte(0)
	}
	w.byte(f.Args)
	w.byte(int(f.Result))
	w.two(len(f.Regs))
	w.code = append(w.code, f.Regs...)
	w.byte(len(f.Slots))
	w.code = append(w.code, f.Slots...)
	w.byte(len(f.Signals))
	for _, s := range f.Signals {
		w.name(s)
	}
	w.two(len(f.Blocks))
	for _, b := range f.Blocks {
		w.blocks = append(w.blocks, len(w.code))
		w.byte(len(b.Ins))
		for _, x := range b.Ins {
			w.ins(x)
		}
		w.byte(int(b.End.Kind))
		w.fields(reflect.ValueOf(b.End), plainFieldsOfEnd(b.End.Kind))
	}
	return w
}

// plainReader reads code by the tables. Where there are no bytes more it reads -1.
type plainReader struct {
	code  []byte
	calls []int // the numbers of the routines
	isBad bool
}

func (r *plainReader) byte() int {
	if len(r.code) == 0 {
		r.isBad = true
		return -1
	}
	b := r.code[0]
	r.code = r.code[1:]
	return int(b)
}

func (r *plainReader) two() int {
	high, low := r.byte(), r.byte()
	return high*256 + low
}

func (r *plainReader) place() int {
	if n := r.two(); n != 65535 {
		return n
	}
	return -1
}

func (r *plainReader) name() string {
	n := r.byte()
	if n > len(r.code) {
		r.isBad = true
	}
	if r.isBad {
		return ""
	}
	s := string(r.code[:n])
	r.code = r.code[n:]
	return s
}

// times calls do as often as a number says, as long as all is well.
func (r *plainReader) times(n int, do func()) {
	for i := 0; i < n && !r.isBad; i++ {
		do()
	}
}

func (r *plainReader) fields(v reflect.Value, fields string) {
	r.isBad = r.isBad || fields == ""
	set := func(name string, n int) { v.FieldByName(name).SetInt(int64(n)) }
	for _, name := range strings.Fields(fields) {
		switch name {
		case "N":
			set("N", r.byte())
		case "N4":
			n := r.two()*65536 + r.two()
			if n >= 2147483648 {
				n -= 4294967296
			}
			set("N", n)
		case "Args":
			var l []int
			r.times(r.byte(), func() { l = append(l, r.place()) })
			v.FieldByName(name).Set(reflect.ValueOf(l))
		case "Name":
			v.FieldByName(name).SetString(r.name())
		case "routine":
			r.calls = append(r.calls, r.two())
			v.FieldByName("Name").SetString("some$routine")
		case "Ins":
			v.FieldByName(name).Set(reflect.ValueOf(r.ins()))
		case "handlers":
			var l []api.When
			r.times(r.byte(), func() { l = append(l, api.When{Name: r.name(), To: r.place()}) })
			v.FieldByName("Whens").Set(reflect.ValueOf(l))
			set("Others", r.place())
		default:
			set(name, r.place())
		}
	}
}

func (r *plainReader) ins() api.Ins {
	x := api.Ins{Op: uint8(r.byte())}
	r.fields(reflect.ValueOf(&x).Elem(), plainFields(x.Op))
	return x
}

func (r *plainReader) block() api.Block {
	var b api.Block
	r.times(r.byte(), func() { b.Ins = append(b.Ins, r.ins()) })
	b.End = api.End{Kind: uint8(r.byte()), Others: -1}
	r.fields(reflect.ValueOf(&b.End).Elem(), plainFieldsOfEnd(b.End.Kind))
	return b
}

// plainRead returns the flow that bytes are the code of, in which all routines have one name, the numbers of these, and whether
// the bytes are code.
func plainRead(b []byte) (api.Flow, []int, bool) {
	r := plainReader{code: b}
	f := api.Flow{Name: "some"}
	first := r.byte()
	f.Iter = first == 1
	f.Args, f.Result = r.byte(), uint8(r.byte())
	r.times(r.two(), func() { f.Regs = append(f.Regs, uint8(r.byte())) })
	r.times(r.byte(), func() { f.Slots = append(f.Slots, uint8(r.byte())) })
	r.times(r.byte(), func() { f.Signals = append(f.Signals, r.name()) })
	r.times(r.two(), func() { f.Blocks = append(f.Blocks, r.block()) })
	isOne := !r.isBad && first < 2 && len(r.code) == 0 && flow.Check(f) == api.OK
	if !isOne {
		return api.Flow{}, nil, false
	}
	return f, r.calls, true
}

// routines returns the names of the routines of a flow in their order.
func routines(f api.Flow) []string {
	var l []string
	for _, b := range f.Blocks {
		if b.End.Kind == api.EndCall || b.End.Kind == api.EndOpen {
			l = append(l, b.End.Name)
		}
	}
	return l
}

// plainNamed returns a flow with its name, and those of its routines.
func plainNamed(f api.Flow, name string, names []string) api.Flow {
	f = copied(f)
	f.Name = name
	n := 0
	for i, b := range f.Blocks {
		if b.End.Kind == api.EndCall || b.End.Kind == api.EndOpen {
			f.Blocks[i].End.Name = names[n]
			n++
		}
	}
	return f
}

// plainDecode returns the flow that has an object, and whether there is one.
func plainDecode(o api.Object) (api.Flow, bool) {
	f, calls, isOne := plainRead(o.Code)
	if !isOne || len(o.Code) > 20000 || len(calls) != len(o.Relocs) {
		return api.Flow{}, false
	}
	var names []string
	for _, r := range o.Relocs {
		names = append(names, r.Name)
	}
	f = plainNamed(f, o.Name, names)
	if flow.Check(f) != api.OK {
		return api.Flow{}, false
	}
	w := plainCode(f)
	return f, slices.Equal(w.code, o.Code) && slices.Equal(w.calls, o.Relocs)
}

// plainBack returns the flow with a name and some code, in which numbers stand for names, and the error that there is to be.
func plainBack(name string, b []byte, names []string) (api.Flow, api.Errno) {
	f, calls, isOne := plainRead(b)
	if !isOne || len(b) > 20000 {
		return api.Flow{}, api.ErrCode
	}
	var called []string
	for _, n := range calls {
		if n >= len(names) {
			return api.Flow{}, api.ErrNone
		}
		called = append(called, names[n])
	}
	f = plainNamed(f, name, called)
	if flow.Check(f) != api.OK {
		return api.Flow{}, api.ErrArg
	}
	return f, api.OK
}
