package code

import (
	"argus/api"
	"argus/flow"
)

// someRoutine is the name of all routines as long as their names are not known.
const someRoutine = "_"

// reader reads bytes one after the other, and gives up where there are none.
type reader struct {
	code    []byte
	from    int
	numbers []int // of the routines
}

func (r *reader) at() int { return r.from }

func (r *reader) take(n int) []byte {
	if n > len(r.code)-r.from {
		panic(torn{})
	}
	to := r.from + n
	b := r.code[r.from:to:to]
	r.from = to
	return b
}

// number reads a number, the greatest byte first.
func (r *reader) number(width int) int {
	n := 0
	for _, b := range r.take(width) {
		n = n<<8 | int(b)
	}
	return n
}

func (r *reader) flag(is *bool) {
	n := r.number(1)
	if n > 1 {
		panic(torn{})
	}
	*is = n == 1
}

func (r *reader) sort(sort *uint8) { *sort = uint8(r.number(1)) }

func (r *reader) small(n *int) { *n = r.number(1) }

func (r *reader) index(n *int) {
	*n = r.number(2)
	if *n == 65535 {
		*n = -1
	}
}

func (r *reader) none(n *int) { *n = -1 }

func (r *reader) word(n *int) { *n = int(int32(r.number(4))) }

func (r *reader) name(s *string) { *s = string(r.take(r.number(1))) }

func (r *reader) routine(s *string) {
	r.numbers = append(r.numbers, r.number(2))
	*s = someRoutine
}

func (r *reader) many(width, _ int) int { return r.number(width) }

// content is what code holds: a flow without names of routines, the numbers that stand for these, and places.
type content struct {
	api.Flow
	numbers []int
	calls   []api.Reloc
	blocks  []int
}

// read returns what code holds, or nothing and an error.
func read(b []byte) (c content, e api.Errno) {
	defer func() {
		if recover() != nil {
			c, e = content{}, api.ErrCode
		}
	}()
	if len(b) > api.MaxCode {
		panic(torn{})
	}
	r := &reader{code: b}
	all := newCoder(r)
	f := api.Flow{Name: someRoutine}
	all.flow(&f)
	if r.from < len(b) || flow.Check(f) != api.OK {
		panic(torn{})
	}
	return content{f, r.numbers, all.calls, all.blocks}, api.OK
}

// named returns the flow with its name, and those of the routines that it calls, one for each call.
func (c content) named(name string, called []string) api.Flow {
	f := c.Flow
	f.Name = name
	for i := range f.Blocks {
		if e := &f.Blocks[i].End; e.Kind == api.EndCall || e.Kind == api.EndOpen {
			e.Name, called = called[0], called[1:]
		}
	}
	return f
}
