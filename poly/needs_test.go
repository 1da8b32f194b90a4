package poly_test

import (
	"fmt"
	"math/rand/v2"
	"slices"
	"strings"
	"testing"

	"argus/api"
	"argus/check"
	"argus/poly"
	"argus/sample"
	"argus/tree"
)

// needy makes a source by chance: clusters whose operations have large types, which other ones may need, and procedures p, o and u that name some of them.
func needy(r *rand.Rand) string {
	large := func(t string) string {
		return strings.ReplaceAll(sample.Pick(r, "X", "array[X]", "array[array[X]]", "record[l:X,r:X]", "array[array[array[X]]]"), "X", t)
	}
	instance := func() string {
		s := "?t"
		for range 1 + r.IntN(3) {
			s = sample.Pick(r, "a", "b", "c") + "[" + s + "]"
		}
		return s
	}
	var l []string
	for i, name := range []string{"a", "b", "c"} {
		needs := ""
		if i > 0 && r.IntN(2) == 0 {
			needs = " where t has f: proc(" + large("?t") + ")"
		}
		l = append(l, fmt.Sprintf("cluster %s[t] is f%s rep = ?t proc f(x: %s) is end end", name, needs, large(name+"[?t]")))
	}
	t := instance()
	called := ""
	if r.IntN(3) == 0 {
		called = " s{" + instance() + "}()"
	}
	return strings.Join(append(l,
		"proc s[t]() where t has f: proc("+large("?t")+") is end",
		"proc p[t](x: "+t+") is"+called+" end",
		"proc o[t]() is p{?t}(u{?t}()) end",
		"proc u[t]() returns "+t+" is return u{?t}() end"), "\n")
}

// P7.1: what does not fit with an argument in it, since a need's signature is too long then, is not named. A program can be made where all that is called fits.
func TestNeedsByChance(t *testing.T) {
	t.Parallel()
	seen := map[string]int{}
	for seed := range uint64(800) {
		r := rand.New(rand.NewPCG(seed, 7))
		source := needy(r)
		l, f := tree.Parse(source)
		if f.Err != api.OK {
			t.Fatalf("%v: %s", f, source)
		}
		p, f := check.Check(l)
		if f.Err != api.OK {
			continue
		}
		for range 4 {
			i := sample.Pick(r, "p", "o", "u") + "[" + sample.Pick(r, "int", "array[int]", "array[array[int]]", "array[array[array[int]]]", "record[a:int,b:array[bool]]", longArg) + "]"
			names, isThere := plainUses(p, i)
			if got, e := poly.Uses(p, i); !slices.Equal(got, names) || (e == api.OK) != isThere {
				t.Fatalf("G2: Uses(%s): %q, %d, not %q of\n%s", i, got, e, names, source)
			}
			names, isAll := plainAll(p, []string{i})
			if got, e := poly.All(p, []string{i}); !slices.Equal(got, names) || (e == api.OK) != isAll {
				t.Fatalf("G3: All(%s): %q, %d, not %q of\n%s", i, got, e, names, source)
			}
			q, e := poly.Mono(p, []string{i})
			if e == api.OK && poly.CheckMono(q) != api.OK || e != api.OK && isAll && !strings.Contains(source, "s{") {
				t.Fatalf("G5: Mono(%s): %d, %d of\n%s", i, e, poly.CheckMono(q), source)
			}
			seen[fmt.Sprint(isThere, isAll, e)]++
		}
	}
	if seen["true true 0"] < 100 || seen["true false 70"] < 100 || seen["false false 70"] < 20 {
		t.Errorf("%v", seen)
	}
}
