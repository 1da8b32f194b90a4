package mean

import (
	"iter"
	"slices"

	"argus/api"
)

// isClosed reports whether a heap is as said, and has values alone in its objects.
func isClosed(h []api.Obj) bool {
	if len(h) > api.MaxObjects {
		return false
	}
	for _, o := range h {
		if !isObject(o) || !areValues(h, o.Vals) {
			return false
		}
	}
	return true
}

func isObject(o api.Obj) bool {
	n := len(o.Vals)
	switch o.Kind {
	case api.ObjArray:
		return o.Tag == 0 && n <= api.MaxArray
	case api.ObjRecord:
		return o.Tag == 0 && 1 <= n && n <= api.MaxFields
	case api.ObjOneof:
		return 0 <= o.Tag && o.Tag < api.MaxFields && n == 1
	}
	return false
}

// areValues reports whether all of a list are values in a heap.
func areValues(h []api.Obj, l []api.Value) bool {
	isNone := func(v api.Value) bool { return !isValue(h, v) }
	return !slices.ContainsFunc(l, isNone)
}

func isValue(h []api.Obj, v api.Value) bool {
	switch v.Kind {
	case api.ValInt:
		return isInt(v.N)
	case api.ValBool:
		return v.N == 0 || v.N == 1
	case api.ValNil:
		return v.N == 0
	case api.ValRef:
		return 0 <= v.N && v.N < len(h)
	}
	return false
}

func isInt(n int) bool { return -api.MaxInt <= n && n <= api.MaxInt }

func cloneHeap(h []api.Obj) []api.Obj {
	h = slices.Clone(h)
	for i, o := range h {
		h[i].Vals = slices.Clone(o.Vals)
	}
	return h
}

// met yields the objects that can be reached from values, each once, in the order in which they are met; what is in an object comes ahead of what stands behind it.
func met(h []api.Obj, from []api.Value) iter.Seq[int] {
	return func(yield func(int) bool) {
		isMet := make([]bool, len(h))
		var follow func(l []api.Value) bool
		follow = func(l []api.Value) bool {
			for _, v := range l {
				if v.Kind != api.ValRef || isMet[v.N] {
					continue
				}
				isMet[v.N] = true
				if !yield(v.N) || !follow(h[v.N].Vals) {
					return false
				}
			}
			return true
		}
		follow(from)
	}
}

// reached returns the objects that can be reached from values, and the values, with indices in the order in which they are met. All that is alike is the same then.
func reached(h []api.Obj, v []api.Value) ([]api.Obj, []api.Value) {
	var objects []api.Obj
	index := map[int]int{}
	for i := range met(h, v) {
		index[i] = len(objects)
		objects = append(objects, h[i])
	}
	renamed := func(l []api.Value) []api.Value {
		l = slices.Clone(l)
		for i, x := range l {
			if x.Kind == api.ValRef {
				l[i].N = index[x.N]
			}
		}
		return l
	}
	for i, o := range objects {
		objects[i].Vals = renamed(o.Vals)
	}
	return objects, renamed(v)
}

func equalObjects(a, b api.Obj) bool {
	return a.Kind == b.Kind && a.Tag == b.Tag && slices.Equal(a.Vals, b.Vals)
}
