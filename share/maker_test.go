package share_test

import (
	"cmp"
	"math/rand/v2"
	"slices"
	"strings"
	"testing"

	"argus/api"
	"argus/flow"
	"argus/sample"
)

// lists gives lists of flows by chance: in most of them some flows do the same, and others nearly so.
func lists(t *testing.T, seed uint64, n int, do func(r *rand.Rand, l []api.Flow)) {
	t.Helper()
	for trial := range n {
		r := rand.New(rand.NewPCG(seed, uint64(trial)))
		var l []api.Flow
		switch trial % 4 {
		case 0:
			l = many(r, rows(r, 1+r.IntN(4)), 1+r.IntN(12))
		case 1:
			l = rows(r, r.IntN(10))
		case 2:
			l = many(r, (&sample.Flows{Chance: r, Phis: true, Slots: true}).List(), 1+r.IntN(12))
		case 3:
			l = sorted(many(r, rows(r, 1+r.IntN(3)), 6), rows(r, r.IntN(5)))
		}
		for range r.IntN(8) {
			l = altered(r, l)
		}
		if i, e := flow.CheckAll(l); e != api.OK {
			t.Fatalf("%d: %d, %d: %+v", trial, i, e, l)
		}
		do(r, l)
	}
}

func byName(a, b api.Flow) int { return cmp.Compare(a.Name, b.Name) }

// sorted returns the flows of some lists in one: of several with a Name the first one.
func sorted(lists ...[]api.Flow) []api.Flow {
	l := slices.Concat(lists...)
	slices.SortStableFunc(l, byName)
	isOne := func(a, b api.Flow) bool { return a.Name == b.Name }
	l = slices.CompactFunc(l, isOne)
	// What called one that is gone may not fit any more.
	for {
		i, e := flow.CheckAll(l)
		if e != api.ErrCall {
			return l
		}
		l = slices.Delete(l, i, i+1)
	}
}

// someNames returns Names in their order.
func someNames(r *rand.Rand, n int) []string {
	names := map[string]bool{}
	for len(names) < n {
		s := ""
		for range 1 + r.IntN(3) {
			s += sample.Pick(r, "!", "$", "0", "1", "A", "_", "a", "b", "z", "~")
		}
		if r.IntN(10) == 0 {
			s += strings.Repeat("_", 120-len(s))
		}
		names[s] = true
	}
	var l []string
	for name := range names {
		l = append(l, name)
	}
	slices.Sort(l)
	return l
}

// many returns a list in which each flow of another one stands once or several times, and calls any of those that it called.
func many(r *rand.Rand, l []api.Flow, more int) []api.Flow {
	var out []api.Flow
	for i := range l {
		out = append(out, copied(l[i]))
	}
	for range more {
		out = append(out, copied(sample.Pick(r, l...)))
	}
	was := map[string][]string{}
	names := someNames(r, len(out))
	for i, n := range r.Perm(len(out)) {
		was[out[i].Name] = append(was[out[i].Name], names[n])
		out[i].Name = names[n]
	}
	for i := range out {
		for _, name := range callsOf(&out[i]) {
			*name = sample.Pick(r, was[*name]...)
		}
	}
	slices.SortFunc(out, byName)
	return out
}

// callsOf returns where the Names in the calls of a flow stand.
func callsOf(f *api.Flow) []*string {
	var l []*string
	for i := range f.Blocks {
		if e := &f.Blocks[i].End; e.Kind == api.EndCall || e.Kind == api.EndOpen {
			l = append(l, &e.Name)
		}
	}
	return l
}

// rows returns flows each of which is a row of calls. There are few shapes of them.
func rows(r *rand.Rand, n int) []api.Flow {
	names := someNames(r, n)
	var sorts [][]bool // of the calls of each shape, whether it opens an iterator
	for range 1 + r.IntN(2) {
		var l []bool
		for range r.IntN(4) {
			l = append(l, r.IntN(4) == 0)
		}
		sorts = append(sorts, l)
	}
	var procs, iters []string
	isIter := map[string]bool{}
	for _, name := range names {
		if isIter[name] = r.IntN(6) == 0; isIter[name] {
			iters = append(iters, name)
		} else {
			procs = append(procs, name)
		}
	}
	var l []api.Flow
	for _, name := range names {
		l = append(l, row(r, name, isIter[name], sample.Pick(r, sorts...), procs, iters))
	}
	return l
}

// row returns a flow that puts a number, calls others, and ends; an iterator yields once.
func row(r *rand.Rand, name string, isIter bool, opens []bool, procs, iters []string) api.Flow {
	f := proc(name, "w")
	add := func(e api.End, l ...api.Ins) { f.Blocks = append(f.Blocks, block(e, l...)) }
	add(goTo(1), number(0, r.IntN(4)/3), put(0))
	for _, isOpen := range opens {
		to := len(f.Blocks) + 1
		switch {
		case isOpen && len(iters) > 0:
			f.Regs = append(f.Regs, api.RegIter)
			i := len(f.Regs) - 1
			add(open(sample.Pick(r, iters...), i, to))
			add(next(i, 0, to+1, to+1))
		case len(procs) > 0:
			add(call(sample.Pick(r, procs...), -1, to))
		}
	}
	if isIter {
		add(yield(0, len(f.Blocks)+1))
		f = iterator(f, 0, api.RegWord)
	}
	end := ret(-1)
	if r.IntN(12) == 0 {
		end = signal("low")
	}
	f.Blocks = append(f.Blocks, block(end))
	return f
}

// altered returns a list in which a flow is another one, or the list itself if that would not be valid.
func altered(r *rand.Rand, l []api.Flow) []api.Flow {
	if len(l) == 0 {
		return l
	}
	i := r.IntN(len(l))
	other := copied(l)
	switch names := callsOf(&other[i]); {
	case len(names) > 0 && r.IntN(3) > 0:
		*sample.Pick(r, names...) = sample.Pick(r, l...).Name
	default:
		other[i] = sample.Changed(r, other[i])
	}
	if _, e := flow.CheckAll(other); e != api.OK {
		return l
	}
	return other
}

// someKeep returns some Names of a list, a few of them twice.
func someKeep(r *rand.Rand, l []api.Flow) []string {
	var keep []string
	share := r.IntN(6)
	for _, f := range l {
		for range 1 + r.IntN(2)*r.IntN(2) {
			if r.IntN(5) < share {
				keep = append(keep, f.Name)
			}
		}
	}
	r.Shuffle(len(keep), func(i, j int) { keep[i], keep[j] = keep[j], keep[i] })
	return keep[:min(len(keep), api.MaxFlows)]
}

// otherClasses returns lists that are often no partition.
func otherClasses(r *rand.Rand, c [][]int, n int) [][]int {
	c = copied(c)
	for range 1 + r.IntN(2) {
		i, j := 0, 0
		if len(c) > 0 {
			i, j = r.IntN(len(c)), r.IntN(len(c))
		}
		any := sample.Pick(r, r.IntN(n+2)-1, r.IntN(n+2)-1, n, -1<<63, 1<<62)
		switch k := r.IntN(10); {
		case k == 0:
			c = append(c, []int{any})
		case k == 1:
			c = append(c, nil)
		case len(c) == 0:
		case k == 2:
			c[i], c[j] = c[j], c[i]
		case k == 3:
			c = slices.Delete(c, i, i+1)
		case k < 6:
			// Two classes become one.
			if i < j {
				c[i] = slices.Sorted(slices.Values(slices.Concat(c[i], c[j])))
				c = slices.Delete(c, j, j+1)
			}
		case len(c[i]) == 0:
		case k < 8:
			// One becomes two.
			at := r.IntN(len(c[i]))
			c = append(c, c[i][at:])
			c[i] = c[i][:at:at]
			c = inOrder(c)
		case k == 8:
			c[i][r.IntN(len(c[i]))] = any
		default:
			r.Shuffle(len(c[i]), func(a, b int) { c[i][a], c[i][b] = c[i][b], c[i][a] })
		}
	}
	return c
}

// inOrder leaves out what is empty, and puts the rest in order.
func inOrder(c [][]int) [][]int {
	c = slices.DeleteFunc(c, func(class []int) bool { return len(class) == 0 })
	slices.SortFunc(c, slices.Compare)
	return c
}

// partitions gives all partitions of n indices.
func partitions(n int, do func(c [][]int)) {
	var add func(i int, c [][]int)
	add = func(i int, c [][]int) {
		if i == n {
			do(copied(c))
			return
		}
		for k := range c {
			c[k] = append(c[k], i)
			add(i+1, c)
			c[k] = c[k][:len(c[k])-1]
		}
		add(i+1, append(c, []int{i}))
	}
	add(0, nil)
}
