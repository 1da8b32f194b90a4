package mean_test

import (
	"fmt"
	"reflect"
	"slices"
	"strconv"
	"strings"
	"testing"

	"argus/api"
	"argus/check"
	"argus/mean"
	"argus/sample"
	"argus/tree"
)

// many is more steps than what the tests run takes, unless it does not end.
const many = api.MaxSteps

// town has modules that the tests use.
const town = sample.Town

func parse(t *testing.T, sources ...string) []api.Module {
	t.Helper()
	l, f := tree.Parse(strings.Join(sources, "\n"))
	if f != (api.Fault{}) {
		t.Fatalf("Parse of %s: %v", sources[len(sources)-1], f)
	}
	return l
}

// programOf returns the program of sources without faults.
func programOf(t *testing.T, sources ...string) api.Program {
	t.Helper()
	l := parse(t, sources...)
	p, f := check.Check(l)
	if f != (api.Fault{}) {
		t.Fatalf("Check of %s: %v", sources[len(sources)-1], f)
	}
	return p
}

// vals reads values: numbers, true, false, nil, and references as @ and an index.
func vals(s string) []api.Value {
	var l []api.Value
	for _, word := range strings.Fields(s) {
		v := api.Value{Kind: api.ValInt}
		switch word {
		case "true":
			v = api.Value{Kind: api.ValBool, N: 1}
		case "false":
			v = api.Value{Kind: api.ValBool}
		case "nil":
			v = api.Value{Kind: api.ValNil}
		default:
			number, isRef := strings.CutPrefix(word, "@")
			if isRef {
				v.Kind = api.ValRef
			}
			n, err := strconv.Atoi(number)
			if err != nil {
				panic(err)
			}
			v.N = n
		}
		l = append(l, v)
	}
	return l
}

// heap reads objects with a semicolon between two: array, record, or a oneof as oneof and the tag, and then the values.
func heap(s string) []api.Obj {
	var l []api.Obj
	if s == "" {
		return nil
	}
	for _, text := range strings.Split(s, ";") {
		front, rest, _ := strings.Cut(strings.TrimSpace(text), " ")
		o := api.Obj{Kind: api.ObjArray, Vals: vals(rest)}
		switch tag, isOneof := strings.CutPrefix(front, "oneof"); {
		case isOneof:
			o.Kind = api.ObjOneof
			o.Tag, _ = strconv.Atoi(tag)
		case front == "record":
			o.Kind = api.ObjRecord
		case front != "array":
			panic(front)
		}
		l = append(l, o)
	}
	return l
}

func showValue(v api.Value) string {
	switch {
	case v == api.Value{}:
		return "none"
	case v.Kind == api.ValInt:
		return strconv.Itoa(v.N)
	case v == api.Value{Kind: api.ValBool}:
		return "false"
	case v == api.Value{Kind: api.ValBool, N: 1}:
		return "true"
	case v == api.Value{Kind: api.ValNil}:
		return "nil"
	case v.Kind == api.ValRef:
		return fmt.Sprint("@", v.N)
	}
	return fmt.Sprint(v)
}

func showValues(l []api.Value) string {
	var words []string
	for _, v := range l {
		words = append(words, showValue(v))
	}
	return strings.Join(words, " ")
}

func showHeap(h []api.Obj) string {
	var l []string
	for _, o := range h {
		s := fmt.Sprint("kind ", o.Kind, " ", o.Tag)
		switch {
		case o.Kind == api.ObjArray && o.Tag == 0:
			s = "array"
		case o.Kind == api.ObjRecord && o.Tag == 0:
			s = "record"
		case o.Kind == api.ObjOneof:
			s = fmt.Sprint("oneof", o.Tag)
		}
		l = append(l, strings.TrimSpace(s+" "+showValues(o.Vals)))
	}
	return strings.Join(l, "; ")
}

// showEnd writes how a run ended: what was put behind that, if something was.
func showEnd(r api.Ran) string {
	s := fmt.Sprint("kind ", r.Kind)
	switch r.Kind {
	case api.RanDone:
		s = "done"
	case api.RanSignal:
		s = "signal"
	case api.RanSpent:
		s = "spent"
	}
	if r.Signal != "" {
		s += " " + r.Signal
	}
	if r.Value != (api.Value{}) {
		s += " " + showValue(r.Value)
	}
	if len(r.Put) > 0 {
		s += " put " + strings.Trim(fmt.Sprint(r.Put), "[]")
	}
	return s
}

// showRan writes all of a run.
func showRan(r api.Ran) string { return fmt.Sprint(showEnd(r), ", ", r.Steps, " steps") }

// call runs a procedure that can be called.
func call(t *testing.T, p api.Program, h []api.Obj, ref, args string, steps int) (api.Ran, []api.Obj) {
	t.Helper()
	r, g, e := mean.Call(p, h, ref, vals(args), steps)
	if e != api.OK {
		t.Fatalf("Call(%s, %s): %d", ref, args, e)
	}
	return r, g
}

// each runs an iterator that can be called.
func each(t *testing.T, p api.Program, h []api.Obj, ref, args string, steps, most int) ([]api.Value, api.Ran, []api.Obj) {
	t.Helper()
	l, r, g, e := mean.Each(p, h, ref, vals(args), steps, most)
	if e != api.OK {
		t.Fatalf("Each(%s, %s): %d", ref, args, e)
	}
	return l, r, g
}

func areAlike(t *testing.T, h []api.Obj, v []api.Value, g []api.Obj, w []api.Value) bool {
	t.Helper()
	is, e := mean.Alike(h, v, g, w)
	if e != api.OK {
		t.Fatalf("Alike: %d: %s, %s; %s, %s", e, showHeap(h), showValues(v), showHeap(g), showValues(w))
	}
	return is
}

// copied returns a value in new memory.
func copied[T any](x T) T {
	return copyOf(reflect.ValueOf(x)).Interface().(T)
}

func copyOf(v reflect.Value) reflect.Value {
	out := reflect.New(v.Type()).Elem()
	switch {
	case v.Kind() == reflect.Slice && !v.IsNil():
		out.Set(reflect.MakeSlice(v.Type(), v.Len(), v.Len()))
		for i := range v.Len() {
			out.Index(i).Set(copyOf(v.Index(i)))
		}
	case v.Kind() == reflect.Struct:
		for i := range v.NumField() {
			out.Field(i).Set(copyOf(v.Field(i)))
		}
	default:
		out.Set(v)
	}
	return out
}

// memory collects where slices lie, with all that they have room for.
type memory [][2]uintptr

func (m *memory) add(v reflect.Value) {
	switch v.Kind() {
	case reflect.Struct:
		for i := range v.NumField() {
			m.add(v.Field(i))
		}
	case reflect.Slice:
		if v.Cap() > 0 && v.Type().Elem().Size() > 0 {
			*m = append(*m, [2]uintptr{v.Pointer(), v.Pointer() + uintptr(v.Cap())*v.Type().Elem().Size()})
		}
		for i := range v.Len() {
			m.add(v.Index(i))
		}
	}
}

// apart asks whether no two slices in values share memory.
func apart(t *testing.T, what string, values ...any) {
	t.Helper()
	m := memory{}
	for _, v := range values {
		m.add(reflect.ValueOf(v))
	}
	slices.SortFunc(m, func(a, b [2]uintptr) int { return int(a[0]) - int(b[0]) })
	for i := 1; i < len(m); i++ {
		if m[i][0] < m[i-1][1] {
			t.Errorf("R3: %s: memory is shared", what)
			return
		}
	}
}
