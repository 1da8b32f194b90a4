package mean

import (
	"slices"

	"argus/api"
	"argus/face"
	"argus/kind"
)

// isGood reports whether a text is a closed type that is good.
func isGood(p api.Program, t string) bool {
	return face.Good(p.Faces, nil, false, t) == api.OK
}

// bottomOf returns the bottom of a closed type that is good, and true; or false if there is none.
func bottomOf(p api.Program, t string) (string, bool) {
	met := map[string]bool{}
	for {
		name, e := kind.Base(t)
		if e != api.OK {
			return t, true
		}
		// A representation that is the parameter alone can lead back to the type from which it came.
		if met[t] {
			return "", false
		}
		met[t] = true
		i := slices.IndexFunc(p.Faces, func(f api.Face) bool { return f.Name == name })
		arg, hasArg, _ := kind.Arg(t)
		t = p.Reps[i]
		if !hasArg {
			continue
		}
		if t, e = kind.With(t, arg); e != api.OK {
			return "", false
		}
	}
}

// bottom is a type that was taken apart: types are its argument, or the types of its parts. The kind is 0 where a type has no bottom.
type bottom struct {
	text  string
	kind  uint8
	types []string
}

// typing gives types to values in a heap. It keeps the bottoms of types that were asked before, and the bottoms with which objects are met.
type typing struct {
	api.Program
	heap    []api.Obj
	bottoms map[string]bottom
	objects map[int]bottom
}

func newTyping(p api.Program, h []api.Obj) *typing {
	return &typing{Program: p, heap: h, bottoms: map[string]bottom{}, objects: map[int]bottom{}}
}

func (t *typing) bottom(of string) bottom {
	b, isKnown := t.bottoms[of]
	if !isKnown {
		if text, hasBottom := bottomOf(t.Program, of); hasBottom {
			b = takenApart(text)
		}
		t.bottoms[of] = b
	}
	return b
}

func takenApart(text string) bottom {
	b := bottom{text: text}
	b.kind, _ = kind.Kind(text)
	if b.kind == api.TypArray {
		arg, _, _ := kind.Arg(text)
		b.types = []string{arg}
	}
	parts, _ := kind.Parts(text)
	for _, p := range parts {
		b.types = append(b.types, p.Type)
	}
	return b
}

// fit reports whether values are of types together; there are as many of both.
func (t *typing) fit(v []api.Value, types []string) bool {
	if !t.giveAll(v, types) {
		return false
	}
	// An object has its bottom ahead of being met here.
	for i := range met(t.heap, v) {
		types, isLike := t.objects[i].typesIn(t.heap[i])
		if !isLike || !t.giveAll(t.heap[i].Vals, types) {
			return false
		}
	}
	return true
}

func (t *typing) giveAll(v []api.Value, types []string) bool {
	for i, x := range v {
		if !t.give(x, t.bottom(types[i])) {
			return false
		}
	}
	return true
}

// give reports whether a value may have a bottom, as far as the value itself tells; an object that it refers to has this bottom from then on.
func (t *typing) give(v api.Value, b bottom) bool {
	if v.Kind != kindOfValues(b.kind) {
		return false
	}
	if v.Kind != api.ValRef {
		return true
	}
	before, isMet := t.objects[v.N]
	t.objects[v.N] = b
	return !isMet || before.text == b.text
}

// kindOfValues returns the kind of all values of a bottom, or 0 for no bottom.
func kindOfValues(kind uint8) uint8 {
	switch kind {
	case api.TypInt:
		return api.ValInt
	case api.TypBool:
		return api.ValBool
	case api.TypNull:
		return api.ValNil
	case api.TypArray, api.TypRecord, api.TypOneof:
		return api.ValRef
	}
	return 0
}

// typesIn returns the types that the values in an object have to have, and true; or false if it is no object of the bottom.
func (b bottom) typesIn(o api.Obj) ([]string, bool) {
	switch {
	case b.kind == api.TypArray && o.Kind == api.ObjArray:
		return slices.Repeat(b.types, len(o.Vals)), true
	case b.kind == api.TypRecord && o.Kind == api.ObjRecord:
		return b.types, len(b.types) == len(o.Vals)
	case b.kind == api.TypOneof && o.Kind == api.ObjOneof && o.Tag < len(b.types):
		return b.types[o.Tag:][:1], true
	}
	return nil, false
}
