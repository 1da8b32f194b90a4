package poly_test

import (
	"reflect"
	"slices"
	"strings"
	"testing"

	"argus/api"
	"argus/check"
	"argus/poly"
	"argus/tree"
)

// programOf returns the program of sources without faults.
func programOf(t *testing.T, sources ...string) api.Program {
	t.Helper()
	l, f := tree.Parse(strings.Join(sources, "\n"))
	if f != (api.Fault{}) {
		t.Fatalf("Parse of %s: %v", sources[len(sources)-1], f)
	}
	p, f := check.Check(l)
	if f != (api.Fault{}) {
		t.Fatalf("Check of %s: %v", sources[len(sources)-1], f)
	}
	return p
}

// notValid is a program that is not valid.
func notValid() api.Program { return api.Program{Reps: []string{""}} }

// sourceOf returns the text of a program.
func sourceOf(t *testing.T, p api.Program) string {
	t.Helper()
	l, e := check.Modules(p)
	if e != api.OK {
		t.Fatalf("Modules: %d: %v", e, p)
	}
	s, e := tree.Print(l)
	if e != api.OK {
		t.Fatalf("Print: %d: %v", e, p)
	}
	return s
}

// list reads texts with blanks between them.
func list(s string) []string { return strings.Fields(s) }

func show(l []string) string { return strings.Join(l, " ") }

// namesOf returns the names of the faces of a program.
func namesOf(p api.Program) []string {
	var l []string
	for _, f := range p.Faces {
		l = append(l, f.Name)
	}
	return l
}

// all returns what some instances need.
func all(t *testing.T, p api.Program, start ...string) []string {
	t.Helper()
	l, e := poly.All(p, start)
	if e != api.OK {
		t.Fatalf("G3: All(%s): %d", show(start), e)
	}
	return l
}

// mono returns the program of what some instances need.
func mono(t *testing.T, p api.Program, start ...string) api.Program {
	t.Helper()
	q, e := poly.Mono(p, start)
	if e != api.OK {
		t.Fatalf("G5: Mono(%s): %d", show(start), e)
	}
	return q
}

// core returns one of the cores of a program.
func core(t *testing.T, p api.Program, owner, name string) api.Core {
	t.Helper()
	c, e := check.CoreOf(p, owner, name)
	if e != api.OK {
		t.Fatalf("no core %s of %q in %v", name, owner, namesOf(p))
	}
	return c
}

// copied returns a value in new memory.
func copied[T any](x T) T {
	return copyOf(reflect.ValueOf(x)).Interface().(T)
}

func copyOf(v reflect.Value) reflect.Value {
	out := reflect.New(v.Type()).Elem()
	switch {
	case v.Kind() == reflect.Slice && !v.IsNil():
		out.Set(reflect.MakeSlice(v.Type(), v.Len(), v.Len()))
		for i := range v.Len() {
			out.Index(i).Set(copyOf(v.Index(i)))
		}
	case v.Kind() == reflect.Struct:
		for i := range v.NumField() {
			out.Field(i).Set(copyOf(v.Field(i)))
		}
	default:
		out.Set(v)
	}
	return out
}

// memory collects where slices lie, with all that they have room for.
type memory [][2]uintptr

func (m *memory) add(v reflect.Value) {
	switch v.Kind() {
	case reflect.Struct:
		for i := range v.NumField() {
			m.add(v.Field(i))
		}
	case reflect.Slice:
		if v.Cap() > 0 && v.Type().Elem().Size() > 0 {
			*m = append(*m, [2]uintptr{v.Pointer(), v.Pointer() + uintptr(v.Cap())*v.Type().Elem().Size()})
		}
		for i := range v.Len() {
			m.add(v.Index(i))
		}
	}
}

// apart asks whether no two slices in values share memory.
func apart(t *testing.T, what string, values ...any) {
	t.Helper()
	m := memory{}
	for _, v := range values {
		m.add(reflect.ValueOf(v))
	}
	slices.SortFunc(m, func(a, b [2]uintptr) int { return int(a[0]) - int(b[0]) })
	for i := 1; i < len(m); i++ {
		if m[i][0] < m[i-1][1] {
			t.Errorf("R3: %s: memory is shared", what)
			return
		}
	}
}

// same reports whether two values are equal, where nil slices and empty ones are the same.
func same(a, b any) bool {
	return equal(reflect.ValueOf(a), reflect.ValueOf(b))
}

func equal(a, b reflect.Value) bool {
	switch a.Kind() {
	case reflect.Slice:
		if a.Len() != b.Len() {
			return false
		}
		for i := range a.Len() {
			if !equal(a.Index(i), b.Index(i)) {
				return false
			}
		}
		return true
	case reflect.Struct:
		for i := range a.NumField() {
			if !equal(a.Field(i), b.Field(i)) {
				return false
			}
		}
		return true
	}
	return a.Equal(b)
}
