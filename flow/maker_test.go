package flow_test

import (
	"math/rand/v2"
	"slices"
	"strings"

	"argus/api"
)

// changed returns a flow in which something small is another one, so that it is often not valid.
func changed(r *rand.Rand, f api.Flow) api.Flow {
	f = copied(f)
	f.Blocks = slices.Clone(f.Blocks)
	b := &f.Blocks[r.IntN(len(f.Blocks))]
	x := &b.End.Ins
	if len(b.Ins) > 0 && r.IntN(2) == 0 {
		x = &b.Ins[r.IntN(len(b.Ins))]
	}
	switch r.IntN(14) {
	case 0:
		changeHead(r, &f)
	case 1:
		x.Op = uint8(r.IntN(40))
	case 2, 3:
		changeNumber(r, []*int{&x.To, &x.A, &x.B, &x.N}[r.IntN(4)], len(f.Regs))
	case 4:
		changeList(r, &x.Args, len(f.Regs))
	case 5:
		changeList(r, &b.End.Args, len(f.Regs))
	case 6, 7, 8:
		changeNumber(r, []*int{&b.End.A, &b.End.B, &b.End.To, &b.End.Else, &b.End.Others}[r.IntN(5)], max(len(f.Regs), len(f.Blocks)))
	case 9:
		b.End.Kind = uint8(r.IntN(11))
	case 10:
		b.End.Name = anyName(r)
	case 11:
		changeWhens(r, &b.End.Whens, len(f.Blocks))
	case 12:
		// An instruction less may leave something unwritten.
		if n := len(b.Ins); n > 0 {
			i := r.IntN(n)
			b.Ins = slices.Delete(b.Ins, i, i+1)
		}
	case 13:
		b.Ins = append(b.Ins, b.Ins...)
		r.Shuffle(len(b.Ins), func(i, j int) { b.Ins[i], b.Ins[j] = b.Ins[j], b.Ins[i] })
	}
	return f
}

func anyName(r *rand.Rand) string {
	l := []string{"", "a", "b$x", "c1", "low", "Low", "a b", "a\n", "~", "!", "\x7f", "é", "zerodivide", "overflow", strings.Repeat("s", 12), strings.Repeat("s", 13), strings.Repeat("n", 120), strings.Repeat("n", 121)}
	return l[r.IntN(len(l))]
}

func changeNumber(r *rand.Rand, n *int, most int) {
	*n = []int{r.IntN(most), r.IntN(most), -1, 0, 1, most, most - 1, -2, 5, 6, 1000000000, 1000000001, -1000000001, 1 << 62}[r.IntN(14)]
}

func changeList(r *rand.Rand, l *[]int, most int) {
	switch r.IntN(3) {
	case 0:
		*l = append(*l, r.IntN(most))
	case 1:
		*l = (*l)[:len(*l)/2]
	case 2:
		if len(*l) > 0 {
			changeNumber(r, &(*l)[r.IntN(len(*l))], most)
		}
	}
}

func changeWhens(r *rand.Rand, l *[]api.When, blocks int) {
	w := api.When{Name: anyName(r)}
	changeNumber(r, &w.To, blocks)
	if len(*l) > 0 && r.IntN(2) == 0 {
		(*l)[r.IntN(len(*l))] = w
	} else {
		*l = append(*l, w)
	}
}

func changeHead(r *rand.Rand, f *api.Flow) {
	switch r.IntN(7) {
	case 0:
		f.Name = anyName(r)
	case 1:
		f.Iter = !f.Iter
	case 2:
		changeNumber(r, &f.Args, 8)
	case 3:
		f.Result = uint8(r.IntN(5))
	case 4:
		f.Regs[r.IntN(len(f.Regs))] = uint8(r.IntN(5))
	case 5:
		f.Signals = append(f.Signals, anyName(r))
	case 6:
		if len(f.Slots) > 0 {
			f.Slots[r.IntN(len(f.Slots))] = uint8(r.IntN(4))
		}
	}
}
