package code_test

import (
	"bytes"
	"math/rand/v2"
	"slices"
	"strings"
	"testing"

	"argus/api"
	"argus/code"
	"argus/flow"
	"argus/sample"
)

// flows calls do with valid flows without phis by chance.
func flows(t *testing.T, seed uint64, n int, do func(r *rand.Rand, f api.Flow)) {
	t.Helper()
	r := rand.New(rand.NewPCG(seed, 15))
	for range n {
		m := sample.Flows{Chance: r, Slots: r.IntN(2) == 0, Wild: r.IntN(2) == 0}
		l := m.List()
		f := l[r.IntN(len(l))]
		for r.IntN(2) == 0 {
			g := sample.Changed(r, f)
			if isPlain, e := flow.Plain(g); e == api.OK && isPlain {
				f = g
			}
		}
		if e := flow.Check(f); e != api.OK {
			t.Fatalf("the test is wrong: %d: %+v", e, f)
		}
		do(r, f)
	}
}

// objects calls do with flows by chance, and their objects.
func objects(t *testing.T, seed uint64, n int, do func(r *rand.Rand, f api.Flow, o api.Object)) {
	t.Helper()
	flows(t, seed, n, func(r *rand.Rand, f api.Flow) {
		o, e := code.Encode(f)
		if e != api.OK {
			t.Fatalf("N1: %d: %+v", e, f)
		}
		do(r, f, o)
	})
}

// someByte returns bytes that stand in code more often than others, and others.
func someByte(r *rand.Rand) byte {
	return sample.Pick(r, byte(r.IntN(256)), byte(r.IntN(40)), byte(r.IntN(10)), byte(r.IntN(3)), 0, 255)
}

// changedBytes returns other bytes: one, two or some are others, left out, or put in, or parts stand elsewhere.
func changedBytes(r *rand.Rand, b []byte) []byte {
	b = slices.Clone(b)
	if len(b) == 0 {
		return []byte{someByte(r)}
	}
	at := r.IntN(len(b))
	to := min(len(b), at+1+r.IntN(8))
	switch r.IntN(8) {
	case 0:
		return slices.Delete(b, at, to)
	case 1:
		return slices.Insert(b, at, someByte(r))
	case 2:
		return slices.Insert(b, r.IntN(len(b)), slices.Clone(b[at:to])...)
	case 3:
		return b[:at]
	case 4:
		b[at], b[to-1] = b[to-1], b[at]
		b[at] += byte(r.IntN(3)) - 1
	default:
		for range 1 + r.IntN(2) {
			b[r.IntN(len(b))] = someByte(r)
		}
	}
	return b
}

// withoutBlock returns code in which a block is left out, or stands twice.
func withoutBlock(r *rand.Rand, b []byte) []byte {
	l, e := code.Blocks(b)
	if e != api.OK {
		return b
	}
	l = append(l, len(b))
	i := r.IntN(len(l) - 1)
	part, count := slices.Clone(b[l[i]:l[i+1]]), l[0]-2
	if r.IntN(2) == 0 {
		return put2(slices.Delete(slices.Clone(b), l[i], l[i+1]), count, len(l)-2)
	}
	return put2(slices.Insert(slices.Clone(b), l[r.IntN(len(l))], part...), count, len(l))
}

// someNames are names of routines, good ones and others.
func someNames(r *rand.Rand, n int) []string {
	var l []string
	for range n {
		l = append(l, sample.Pick(r, "a", "b$x", "main", "!~", strings.Repeat("n", 120), string(rune('a'+r.IntN(26)))))
		if r.IntN(40) == 0 {
			l[len(l)-1] = sample.Pick(r, "", " ", "a b", "\x7f", "\xff", strings.Repeat("n", 121))
		}
	}
	return l
}

// changedObject returns another object.
func changedObject(r *rand.Rand, o api.Object) api.Object {
	o = copied(o)
	n := len(o.Relocs)
	k := r.IntN(10)
	if n == 0 {
		k = r.IntN(5)
	}
	switch k {
	case 0:
		o.Name = someNames(r, 1)[0]
	case 1, 2:
		o.Code = changedBytes(r, o.Code)
	case 3:
		o.Code = withoutBlock(r, o.Code)
	case 4:
		o.Relocs = append(o.Relocs, api.Reloc{At: r.IntN(len(o.Code) + 1), Name: "a"})
	case 5:
		o.Relocs = slices.Delete(o.Relocs, n-1, n)
	case 6:
		o.Relocs[r.IntN(n)].At += sample.Pick(r, -1, 1, 2, -2, 256, 1<<62)
	case 7:
		i, j := r.IntN(n), r.IntN(n)
		o.Relocs[i], o.Relocs[j] = o.Relocs[j], o.Relocs[i]
	case 8:
		o.Relocs[r.IntN(n)].Name = someNames(r, 1)[0]
	case 9:
		if at := o.Relocs[r.IntN(n)].At; at >= 0 && at < len(o.Code) {
			o.Code[at] = someByte(r)
		}
	}
	return o
}

// numbered returns code in which numbers stand in the places of the routines.
func numbered(o api.Object, number func(i int) int) []byte {
	b := bytes.Clone(o.Code)
	for i, r := range o.Relocs {
		b = put2(b, r.At, number(i))
	}
	return b
}
