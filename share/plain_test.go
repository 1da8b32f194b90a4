package share_test

import (
	"slices"

	"argus/api"
)

// plain is a second way to do all of it, from the chapter's words: by Names and by pairs of flows, without a search for classes.
type plain struct {
	list  []api.Flow
	shape [][]bool // of each two flows, whether they have one shape
	alike [][]bool
}

func newPlain(l []api.Flow) *plain {
	p := &plain{list: l}
	var shapes []api.Flow
	for _, f := range l {
		shapes = append(shapes, nameless(f))
	}
	for i := range l {
		p.shape = append(p.shape, nil)
		for j := range l {
			p.shape[i] = append(p.shape[i], same(shapes[i], shapes[j]))
		}
	}
	p.findAlike()
	return p
}

func plainCalls(f api.Flow) []string {
	var l []string
	for _, b := range f.Blocks {
		switch b.End.Kind {
		case api.EndCall, api.EndOpen:
			l = append(l, b.End.Name)
		}
	}
	return l
}

// nameless returns a flow without the Names that do not count.
func nameless(f api.Flow) api.Flow {
	f = copied(f)
	f.Name = ""
	for i := range f.Blocks {
		if e := &f.Blocks[i].End; e.Kind != api.EndSignal {
			e.Name = ""
		}
	}
	return f
}

// plainShape reports whether two flows have one shape.
func plainShape(a, b api.Flow) bool { return same(nameless(a), nameless(b)) }

func (p *plain) index(name string) int {
	return slices.IndexFunc(p.list, func(f api.Flow) bool { return f.Name == name })
}

// called returns what a flow calls at a place, or -1.
func (p *plain) called(i, place int) int {
	if l := plainCalls(p.list[i]); 0 <= place && place < len(l) {
		return p.index(l[place])
	}
	return -1
}

// callAlike reports whether what two flows of one shape call is related.
func (p *plain) callAlike(a, b int, related func(a, b int) bool) bool {
	for place := range plainCalls(p.list[a]) {
		if !related(p.called(a, place), p.called(b, place)) {
			return false
		}
	}
	return true
}

// findAlike leaves of all pairs of one shape those that lead to others of these alone.
func (p *plain) findAlike() {
	p.alike = copied(p.shape)
	related := func(a, b int) bool { return p.alike[a][b] }
	for isNew := true; isNew; {
		isNew = false
		for a := range p.list {
			for b := range p.list {
				if p.alike[a][b] && !p.callAlike(a, b, related) {
					p.alike[a][b], isNew = false, true
				}
			}
		}
	}
}

func (p *plain) classes() [][]int {
	var c [][]int
	for a := range p.list {
		var class []int
		for b := range p.list {
			if p.alike[a][b] {
				class = append(class, b)
			}
		}
		if class[0] == a {
			c = append(c, class)
		}
	}
	return c
}

// classWith returns the number of the list in which an index is.
func classWith(c [][]int, i int) int {
	return slices.IndexFunc(c, func(class []int) bool { return slices.Contains(class, i) })
}

// isClosed reports whether lists, any ones, are a closed partition.
func (p *plain) isClosed(c [][]int) bool {
	var all, firsts []int
	for _, class := range c {
		if len(class) == 0 || !slices.IsSorted(class) {
			return false
		}
		firsts = append(firsts, class[0])
		all = append(all, class...)
	}
	isSorted := slices.IsSorted(firsts)
	slices.Sort(all)
	for i := range all {
		isSorted = isSorted && all[i] == i
	}
	if !isSorted || len(all) != len(p.list) {
		return false
	}
	together := func(a, b int) bool { return classWith(c, a) == classWith(c, b) }
	for a := range p.list {
		for b := range p.list {
			if together(a, b) && (!p.shape[a][b] || !p.callAlike(a, b, together)) {
				return false
			}
		}
	}
	return true
}

// tells reports whether a list of numbers, any ones, tells two flows apart.
func (p *plain) tells(a, b int, way []int) bool {
	if len(way) == 0 {
		return !p.shape[a][b]
	}
	c, d := p.called(a, way[0]), p.called(b, way[0])
	return p.shape[a][b] && c >= 0 && d >= 0 && p.tells(c, d, way[1:])
}

// apart returns the least of the shortest ways for all pairs: those of one length are made of those of the length before. If none
// of these was a shortest one, then none of them can be, since what is left of a shortest way behind its first number is one, too.
func (p *plain) apart() map[[2]int][]int {
	found, now := map[[2]int][]int{}, map[[2]int][]int{}
	for a := range p.list {
		for b := range p.list {
			if !p.shape[a][b] {
				now[[2]int{a, b}] = []int{}
			}
		}
	}
	for isNew := true; isNew; {
		isNew = false
		longer := map[[2]int][]int{}
		for a := range p.list {
			for b := range p.list {
				if way, has := now[[2]int{a, b}]; has && found[[2]int{a, b}] == nil {
					found[[2]int{a, b}], isNew = way, true
				}
				if way := p.longer(a, b, now); way != nil {
					longer[[2]int{a, b}] = way
				}
			}
		}
		now = longer
	}
	return found
}

// longer returns the least way that is by one number longer than others, or nil.
func (p *plain) longer(a, b int, now map[[2]int][]int) []int {
	if !p.shape[a][b] {
		return nil
	}
	for place := range plainCalls(p.list[a]) {
		if way, has := now[[2]int{p.called(a, place), p.called(b, place)}]; has {
			return append([]int{place}, way...)
		}
	}
	return nil
}

// left returns the Names of the flows that are left, ascending.
func (p *plain) left(keep []string) []string {
	var l []string
	for i, f := range p.list {
		isOne, isFirst := slices.Contains(keep, f.Name), true
		for j, other := range p.list {
			if p.alike[i][j] && (slices.Contains(keep, other.Name) || other.Name < f.Name) {
				isFirst = false
			}
		}
		if isOne || isFirst {
			l = append(l, f.Name)
		}
	}
	slices.Sort(l)
	return l
}

// names returns what stands in calls of each flow.
func (p *plain) names(keep []string) []string {
	var l []string
	for i := range p.list {
		for _, name := range p.left(keep) {
			if p.alike[i][p.index(name)] {
				l = append(l, name)
				break
			}
		}
	}
	return l
}

func (p *plain) merge(keep []string) []api.Flow {
	names := p.names(keep)
	var l []api.Flow
	for _, name := range p.left(keep) {
		f := copied(p.list[p.index(name)])
		for i := range f.Blocks {
			if e := &f.Blocks[i].End; e.Kind == api.EndCall || e.Kind == api.EndOpen {
				e.Name = names[p.index(e.Name)]
			}
		}
		l = append(l, f)
	}
	return l
}
