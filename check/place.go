package check

import "argus/api"

// place is a node of a routine of a module; what concerns more than a node has 0 in place of the numbers that it does not need.
type place struct{ module, routine, node int }

func (p place) number() int {
	return (p.module*api.MaxRoutines+p.routine)*api.MaxNodes + p.node
}

// placeOf returns the place with a number: the first one for numbers that are none.
func placeOf(at int) place {
	routine := at / api.MaxNodes
	p := place{routine / api.MaxRoutines, routine % api.MaxRoutines, at % api.MaxNodes}
	if at < 0 || p.module >= api.MaxModules {
		return place{}
	}
	return p
}

// demand gives up with an error at a place unless something is right there.
func (p place) demand(isRight bool, e api.Errno) {
	if !isRight {
		panic(api.Fault{Err: e, At: p.number()})
	}
}

// expect gives up with an error if it is one.
func (p place) expect(e api.Errno) { p.demand(e == api.OK, e) }

// Place returns the number of a place, or 0 if there is no such place.
func Place(module, routine, node int) int {
	p := place{module, routine, node}
	at := p.number()
	// Numbers that are too great for a place come back as those of another one.
	if placeOf(at) != p {
		return 0
	}
	return at
}

// Spot returns what a number is the place of, or zeros.
func Spot(at int) (module, routine, node int) {
	p := placeOf(at)
	return p.module, p.routine, p.node
}
