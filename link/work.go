package link

import (
	"iter"
	"maps"

	"argus/api"
)

// work is a library by names, and what is reached in it, ascending.
type work struct {
	objects map[string]object
	reached []string
}

// begin finds what is reached in a library.
func begin(l []api.Object, roots []string) (work, api.Errno) {
	if _, e := CheckAll(l); e != api.OK {
		return work{}, e
	}
	if len(roots) > api.MaxFlows {
		return work{}, api.ErrLimit
	}
	w := work{objects: map[string]object{}}
	for _, o := range l {
		w.objects[o.Name] = object{o}
	}
	w.reach(roots)
	return w, api.OK
}

// whole is begin where nothing is missing.
func whole(l []api.Object, roots []string) (work, api.Errno) {
	w, e := begin(l, roots)
	for range w.missing() {
		return work{}, api.ErrMissing
	}
	return w, e
}

func (w *work) reach(roots []string) {
	isReached := map[string]bool{}
	var reach func(name string)
	reach = func(name string) {
		if isReached[name] {
			return
		}
		isReached[name] = true
		for need := range w.objects[name].needs() {
			reach(need)
		}
	}
	for _, name := range roots {
		reach(name)
	}
	w.reached = sorted(maps.Keys(isReached))
}

// missing yields what is reached, and has no object.
func (w *work) missing() iter.Seq[string] {
	return func(yield func(string) bool) {
		for _, name := range w.reached {
			if _, has := w.objects[name]; !has && !yield(name) {
				return
			}
		}
	}
}

// image puts the objects together that are reached; none is missing.
func (w *work) image() api.Image {
	i := api.Image{Names: w.reached}
	numbers, size := map[string]int{}, 0
	for n, name := range w.reached {
		numbers[name] = n
		i.Starts = append(i.Starts, size)
		size += len(w.objects[name].Code)
	}
	i.Code = make([]byte, size)
	for n, name := range w.reached {
		o, code := w.objects[name], part(i, n)
		copy(code, o.Code)
		for _, r := range o.Relocs {
			setNumber(at(code, r), numbers[r.Name])
		}
	}
	return i
}
