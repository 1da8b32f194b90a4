package mean_test

import (
	"math/rand/v2"
	"slices"
	"strings"
	"testing"

	"argus/api"
	"argus/sample"
)

// maker makes programs by chance, the same in each run, and values for them.
type maker struct {
	*rand.Rand
	*sample.Maker
}

func newMaker(seed uint64) maker {
	r := rand.New(rand.NewPCG(seed, 6))
	return maker{r, sample.New(r)}
}

func (m maker) program(t *testing.T) (api.Program, string) {
	t.Helper()
	p, source, f := m.Program()
	if f.Err != api.OK {
		t.Fatalf("%v:\n%s", f, source)
	}
	return p, source
}

// world is a heap that is made, with the bottoms of its objects.
type world struct {
	maker
	p       api.Program
	heap    []api.Obj
	bottoms []string
}

// value makes a value of a closed type, and the objects that it needs, or takes those that there are.
func (w *world) value(t string, depth int) (api.Value, bool) {
	t = plainBottom(w.p, t)
	front, inner, _ := strings.Cut(strings.TrimSuffix(t, "]"), "[")
	switch front {
	case "int":
		return api.Value{Kind: api.ValInt, N: sample.Pick(w, w.IntN(4), w.IntN(100)-50, 1000000000)}, true
	case "bool":
		return api.Value{Kind: api.ValBool, N: w.IntN(2)}, true
	case "null":
		return api.Value{Kind: api.ValNil}, true
	}
	at := len(w.heap)
	for i, b := range w.bottoms {
		if b == t && (depth < 0 || w.IntN(3) == 0) {
			return api.Value{Kind: api.ValRef, N: i}, true
		}
	}
	if t == "" || depth < -5 {
		return api.Value{}, false
	}
	w.heap, w.bottoms = append(w.heap, api.Obj{}), append(w.bottoms, t)
	o := api.Obj{Kind: api.ObjArray}
	var types []string
	names, parts := sample.Divided(t)
	switch front {
	case "array":
		if depth > 0 {
			types = slices.Repeat([]string{inner}, w.IntN(4))
		}
	case "record":
		o.Kind, types = api.ObjRecord, parts
	case "oneof":
		o.Kind, o.Tag = api.ObjOneof, w.IntN(len(names))
		types = parts[o.Tag:][:1]
	}
	for _, x := range types {
		v, isThere := w.value(x, depth-1)
		if !isThere {
			return api.Value{}, false
		}
		o.Vals = append(o.Vals, v)
	}
	w.heap[at] = o
	return api.Value{Kind: api.ValRef, N: at}, true
}

// values makes values of types, with a heap.
func (m maker) values(p api.Program, types []string) ([]api.Obj, []api.Value, bool) {
	w := &world{maker: m, p: p}
	var l []api.Value
	for _, t := range types {
		v, isThere := w.value(t, 3)
		if !isThere {
			return nil, nil, false
		}
		l = append(l, v)
	}
	return w.heap, l, true
}
