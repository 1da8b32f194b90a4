package lower_test

import (
	"fmt"
	"reflect"
	"slices"
	"strings"
	"testing"

	"argus/api"
	"argus/check"
	"argus/flow"
	"argus/lower"
	"argus/mean"
	"argus/poly"
	"argus/sample"
	"argus/tree"
)

// programOf returns the program of sources without faults.
func programOf(t *testing.T, sources ...string) api.Program {
	t.Helper()
	l, f := tree.Parse(strings.Join(sources, "\n"))
	if f != (api.Fault{}) {
		t.Fatalf("Parse of %s: %v", sources[len(sources)-1], f)
	}
	p, f := check.Check(l)
	if f != (api.Fault{}) {
		t.Fatalf("Check of %s: %v", sources[len(sources)-1], f)
	}
	return p
}

// mono returns the program of what some instances need.
func mono(t *testing.T, p api.Program, start ...string) api.Program {
	t.Helper()
	q, e := poly.Mono(p, start)
	if e != api.OK {
		t.Fatalf("Mono(%s): %d", start, e)
	}
	return q
}

// town returns the program without parameters of sources that use the town, with what main needs.
func town(t *testing.T, sources ...string) api.Program {
	t.Helper()
	return mono(t, programOf(t, append([]string{sample.Town}, sources...)...), "main")
}

// flowsOf returns the flows of a program, which CheckFlows accepts.
func flowsOf(t *testing.T, p api.Program) []api.Flow {
	t.Helper()
	l, e := lower.All(p)
	if e != api.OK {
		t.Fatalf("I1: All: %d", e)
	}
	if at, e := lower.CheckFlows(p, l); at != 0 || e != api.OK {
		t.Fatalf("P9.3: CheckFlows of All: %d, %d", at, e)
	}
	return l
}

// lowered returns the flow of a core.
func lowered(t *testing.T, p api.Program, name string) api.Flow {
	t.Helper()
	f, e := lower.Lower(p, name)
	if e != api.OK {
		t.Fatalf("I1: Lower(%s): %d", name, e)
	}
	return f
}

// textOf returns the text of a flow, or the error of flow.Check.
func textOf(f api.Flow) string {
	s, e := flow.Write(f)
	if e != api.OK {
		return fmt.Sprint("error ", e)
	}
	return s
}

// showRan writes how a run ended, without its steps.
func showRan(r api.Ran) string {
	s := [...]string{"none", "done", "signal", "spent"}[r.Kind]
	if r.Signal != "" {
		s += " " + r.Signal
	}
	if r.Value != (api.Value{}) {
		s += fmt.Sprint(" ", r.Value.N)
	}
	if len(r.Put) > 0 {
		s += fmt.Sprint(" put ", strings.Trim(fmt.Sprint(r.Put), "[]"))
	}
	return s
}

// runs runs a program by its meaning, and flows.
func runs(t *testing.T, p api.Program, l []api.Flow, start string, args []int, steps int) (by, of api.Ran) {
	t.Helper()
	by, e := mean.Run(p, start, args, steps)
	if e != api.OK {
		t.Fatalf("mean.Run(%s, %v): %d", start, args, e)
	}
	of, e = flow.Run(l, start, args, steps)
	if e != api.OK {
		t.Fatalf("P9.2: flow.Run(%s, %v): %d", start, args, e)
	}
	return by, of
}

// run runs main of a program without parameters in both ways, and returns how it ended: if it is spent, it is so in both.
func run(t *testing.T, p api.Program, args ...int) string {
	t.Helper()
	by, of := runs(t, p, flowsOf(t, p), "main", args, api.MaxSteps)
	if by.Kind == api.RanSpent && of.Kind == api.RanSpent {
		return "spent"
	}
	if showRan(by) != showRan(of) {
		t.Errorf("P9.2: %s, not %s of main(%v):\n%s", showRan(of), showRan(by), args, textOf(lowered(t, p, "main")))
	}
	return showRan(of)
}

// instructions returns the instructions of a flow with an Op, those of its ends among them.
func instructions(f api.Flow, op uint8) []api.Ins {
	var l []api.Ins
	for _, b := range f.Blocks {
		for _, x := range append(slices.Clone(b.Ins), b.End.Ins) {
			if x.Op == op {
				l = append(l, x)
			}
		}
	}
	return l
}

// endsOf returns the ends of a flow of a Kind.
func endsOf(f api.Flow, kind uint8) []api.End {
	var l []api.End
	for _, b := range f.Blocks {
		if b.End.Kind == kind {
			l = append(l, b.End)
		}
	}
	return l
}

// called returns what a flow calls or opens.
func called(f api.Flow) []string {
	var l []string
	for _, e := range append(endsOf(f, api.EndCall), endsOf(f, api.EndOpen)...) {
		l = append(l, e.Name)
	}
	slices.Sort(l)
	return slices.Compact(l)
}

func namesOf(l []api.Flow) string {
	var names []string
	for _, f := range l {
		names = append(names, f.Name)
	}
	return strings.Join(names, " ")
}

// copied returns a value in new memory.
func copied[T any](x T) T {
	return copyOf(reflect.ValueOf(x)).Interface().(T)
}

func copyOf(v reflect.Value) reflect.Value {
	out := reflect.New(v.Type()).Elem()
	switch {
	case v.Kind() == reflect.Slice && !v.IsNil():
		out.Set(reflect.MakeSlice(v.Type(), v.Len(), v.Len()))
		for i := range v.Len() {
			out.Index(i).Set(copyOf(v.Index(i)))
		}
	case v.Kind() == reflect.Struct:
		for i := range v.NumField() {
			out.Field(i).Set(copyOf(v.Field(i)))
		}
	default:
		out.Set(v)
	}
	return out
}

// memory collects where slices lie, with all that they have room for.
type memory [][2]uintptr

func (m *memory) add(v reflect.Value) {
	switch v.Kind() {
	case reflect.Struct:
		for i := range v.NumField() {
			m.add(v.Field(i))
		}
	case reflect.Slice:
		if v.Cap() > 0 && v.Type().Elem().Size() > 0 {
			*m = append(*m, [2]uintptr{v.Pointer(), v.Pointer() + uintptr(v.Cap())*v.Type().Elem().Size()})
		}
		for i := range v.Len() {
			m.add(v.Index(i))
		}
	}
}

// apart asks whether no two slices in values share memory.
func apart(t *testing.T, what string, values ...any) {
	t.Helper()
	m := memory{}
	for _, v := range values {
		m.add(reflect.ValueOf(v))
	}
	slices.SortFunc(m, func(a, b [2]uintptr) int { return int(a[0]) - int(b[0]) })
	for i := 1; i < len(m); i++ {
		if m[i][0] < m[i-1][1] {
			t.Errorf("R3: %s: memory is shared", what)
			return
		}
	}
}
