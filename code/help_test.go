package code_test

import (
	"reflect"
	"slices"
	"strings"
	"testing"

	"argus/api"
)

// Ends whose other fields are as they are to be.

func ret(a int) api.End { return api.End{Kind: api.EndReturn, A: a, Others: -1} }

func goTo(to int) api.End { return api.End{Kind: api.EndGoto, To: to, Others: -1} }

func branch(a, to, orElse int) api.End {
	return api.End{Kind: api.EndIf, A: a, To: to, Else: orElse, Others: -1}
}

func signal(name string) api.End { return api.End{Kind: api.EndSignal, Name: name, Others: -1} }

func try(x api.Ins, to int) api.End { return api.End{Kind: api.EndTry, Ins: x, To: to, Others: -1} }

func call(name string, a, to int, args ...int) api.End {
	return api.End{Kind: api.EndCall, Name: name, Args: args, A: a, To: to, Others: -1}
}

func open(name string, a, to int, args ...int) api.End {
	return api.End{Kind: api.EndOpen, Name: name, Args: args, A: a, To: to, Others: -1}
}

func next(a, b, to, orElse int) api.End {
	return api.End{Kind: api.EndNext, A: a, B: b, To: to, Else: orElse, Others: -1}
}

func yield(a, to int) api.End { return api.End{Kind: api.EndYield, A: a, To: to, Others: -1} }

// caught returns an end with handlers: names, and blocks behind them; "others" is the other ones.
func caught(e api.End, handlers ...any) api.End {
	e.Whens = slices.Clone(e.Whens)
	for i := 0; i < len(handlers); i += 2 {
		name, to := handlers[i].(string), handlers[i+1].(int)
		if name == "others" {
			e.Others = to
		} else {
			e.Whens = append(e.Whens, api.When{Name: name, To: to})
		}
	}
	return e
}

func phi(to int, args ...int) api.Ins { return api.Ins{Op: api.InsPhi, To: to, Args: args} }

func move(to, a int) api.Ins { return api.Ins{Op: api.InsMove, To: to, A: a} }

func number(to, n int) api.Ins { return api.Ins{Op: api.InsWord, To: to, N: n} }

func ins(op uint8, to, a, b int) api.Ins { return api.Ins{Op: op, To: to, A: a, B: b} }

func put(a int) api.Ins { return api.Ins{Op: api.InsPut, A: a} }

func block(e api.End, l ...api.Ins) api.Block { return api.Block{Ins: l, End: e} }

// proc returns a procedure without arguments and a result; its registers are w, r or i.
func proc(name, regs string, blocks ...api.Block) api.Flow {
	f := api.Flow{Name: name, Blocks: blocks}
	for _, c := range regs {
		f.Regs = append(f.Regs, uint8(1+strings.IndexRune("wri", c)))
	}
	return f
}

// with returns a flow with a number of arguments, and a result.
func with(f api.Flow, args int, result uint8) api.Flow {
	f.Args, f.Result = args, result
	return f
}

// iterator returns a flow as an iterator.
func iterator(f api.Flow, args int, result uint8) api.Flow {
	f.Iter = true
	return with(f, args, result)
}

// must returns a result without an error.
func must[T any](t *testing.T, about any) func(x T, e api.Errno) T {
	return func(x T, e api.Errno) T {
		t.Helper()
		if e != api.OK {
			t.Fatalf("error %d: %+v", e, about)
		}
		return x
	}
}

// bytesOf returns numbers as bytes.
func bytesOf(l ...int) []byte {
	var b []byte
	for _, n := range l {
		b = append(b, byte(n))
	}
	return b
}

// cut returns the first bytes of some, and nothing else.
func cut(b []byte, n int) []byte { return slices.Clone(b[:n]) }

// put2 returns bytes with a number of two bytes at a place.
func put2(b []byte, at, n int) []byte {
	b = slices.Clone(b)
	b[at], b[at+1] = byte(n/256), byte(n)
	return b
}

// copied returns a value in new memory.
func copied[T any](x T) T {
	return copyOf(reflect.ValueOf(x)).Interface().(T)
}

func copyOf(v reflect.Value) reflect.Value {
	out := reflect.New(v.Type()).Elem()
	switch {
	case v.Kind() == reflect.Slice && !v.IsNil():
		out.Set(reflect.MakeSlice(v.Type(), v.Len(), v.Len()))
		for i := range v.Len() {
			out.Index(i).Set(copyOf(v.Index(i)))
		}
	case v.Kind() == reflect.Struct:
		for i := range v.NumField() {
			out.Field(i).Set(copyOf(v.Field(i)))
		}
	default:
		out.Set(v)
	}
	return out
}

// memory collects where slices lie, with all that they have room for.
type memory [][2]uintptr

func (m *memory) add(v reflect.Value) {
	switch v.Kind() {
	case reflect.Struct:
		for i := range v.NumField() {
			m.add(v.Field(i))
		}
	case reflect.Slice:
		if v.Cap() > 0 && v.Type().Elem().Size() > 0 {
			*m = append(*m, [2]uintptr{v.Pointer(), v.Pointer() + uintptr(v.Cap())*v.Type().Elem().Size()})
		}
		for i := range v.Len() {
			m.add(v.Index(i))
		}
	}
}

// liesApart asks whether no two slices in values share memory.
func liesApart(t *testing.T, what string, values ...any) {
	t.Helper()
	m := memory{}
	for _, v := range values {
		m.add(reflect.ValueOf(v))
	}
	slices.SortFunc(m, func(a, b [2]uintptr) int { return int(a[0]) - int(b[0]) })
	for i := 1; i < len(m); i++ {
		if m[i][0] < m[i-1][1] {
			t.Errorf("R3: %s: memory is shared", what)
			return
		}
	}
}

// same reports whether two values are equal, where nil slices and empty ones are the same.
func same(a, b any) bool {
	return equal(reflect.ValueOf(a), reflect.ValueOf(b))
}

func equal(a, b reflect.Value) bool {
	switch a.Kind() {
	case reflect.Slice:
		if a.Len() != b.Len() {
			return false
		}
		for i := range a.Len() {
			if !equal(a.Index(i), b.Index(i)) {
				return false
			}
		}
		return true
	case reflect.Struct:
		for i := range a.NumField() {
			if !equal(a.Field(i), b.Field(i)) {
				return false
			}
		}
		return true
	}
	return a.Equal(b)
}
