package link_test

import (
	"math/rand/v2"
	"reflect"
	"slices"
	"testing"

	"argus/api"
	"argus/link"
)

// object returns an object; behind its code stand places, each with a name.
func object(name string, code []byte, relocs ...any) api.Object {
	o := api.Object{Name: name, Code: code}
	for i := 0; i < len(relocs); i += 2 {
		o.Relocs = append(o.Relocs, api.Reloc{At: relocs[i].(int), Name: relocs[i+1].(string)})
	}
	return o
}

// needing returns an object that needs some names, and has as many bytes more as is said.
func needing(name string, more int, names ...string) api.Object {
	o := api.Object{Name: name, Code: make([]byte, 2*len(names), 2*len(names)+more)}
	for i, s := range names {
		o.Relocs = append(o.Relocs, api.Reloc{At: 2 * i, Name: s})
	}
	for range more {
		o.Code = append(o.Code, name[0])
	}
	return o
}

// bytesOf returns numbers as bytes.
func bytesOf(l ...int) []byte {
	var b []byte
	for _, n := range l {
		b = append(b, byte(n))
	}
	return b
}

// must returns a result without an error.
func must[T any](t *testing.T, about any) func(x T, e api.Errno) T {
	return func(x T, e api.Errno) T {
		t.Helper()
		if e != api.OK {
			t.Fatalf("error %d: %+v", e, about)
		}
		return x
	}
}

// isLibrary asks whether a test has made a library.
func isLibrary(t *testing.T, l []api.Object) {
	t.Helper()
	if at, e := link.CheckAll(l); at != 0 || e != api.OK {
		t.Fatalf("the test is wrong: %d, %d: %v", at, e, l)
	}
}

// shuffled returns a list in another order.
func shuffled[T any](r *rand.Rand, l []T) []T {
	l = copied(l)
	r.Shuffle(len(l), func(i, j int) { l[i], l[j] = l[j], l[i] })
	return l
}

// copied returns a value in new memory.
func copied[T any](x T) T {
	return copyOf(reflect.ValueOf(x)).Interface().(T)
}

func copyOf(v reflect.Value) reflect.Value {
	out := reflect.New(v.Type()).Elem()
	switch {
	case v.Kind() == reflect.Slice && !v.IsNil():
		out.Set(reflect.MakeSlice(v.Type(), v.Len(), v.Len()))
		for i := range v.Len() {
			out.Index(i).Set(copyOf(v.Index(i)))
		}
	case v.Kind() == reflect.Struct:
		for i := range v.NumField() {
			out.Field(i).Set(copyOf(v.Field(i)))
		}
	default:
		out.Set(v)
	}
	return out
}

// memory collects where slices lie, with all that they have room for.
type memory [][2]uintptr

func (m *memory) add(v reflect.Value) {
	switch v.Kind() {
	case reflect.Struct:
		for i := range v.NumField() {
			m.add(v.Field(i))
		}
	case reflect.Slice:
		if v.Cap() > 0 && v.Type().Elem().Size() > 0 {
			*m = append(*m, [2]uintptr{v.Pointer(), v.Pointer() + uintptr(v.Cap())*v.Type().Elem().Size()})
		}
		for i := range v.Len() {
			m.add(v.Index(i))
		}
	}
}

// liesApart asks whether no two slices in values share memory.
func liesApart(t *testing.T, what string, values ...any) {
	t.Helper()
	m := memory{}
	for _, v := range values {
		m.add(reflect.ValueOf(v))
	}
	slices.SortFunc(m, func(a, b [2]uintptr) int { return int(a[0]) - int(b[0]) })
	for i := 1; i < len(m); i++ {
		if m[i][0] < m[i-1][1] {
			t.Errorf("R3: %s: memory is shared", what)
			return
		}
	}
}

// same reports whether two values are equal, where nil slices and empty ones are the same.
func same(a, b any) bool {
	return equal(reflect.ValueOf(a), reflect.ValueOf(b))
}

func equal(a, b reflect.Value) bool {
	switch a.Kind() {
	case reflect.Slice:
		if a.Len() != b.Len() {
			return false
		}
		for i := range a.Len() {
			if !equal(a.Index(i), b.Index(i)) {
				return false
			}
		}
		return true
	case reflect.Struct:
		for i := range a.NumField() {
			if !equal(a.Field(i), b.Field(i)) {
				return false
			}
		}
		return true
	}
	return a.Equal(b)
}
