package poly_test

import (
	"math/rand/v2"
	"testing"

	"argus/api"
	"argus/kind"
	"argus/sample"
)

// trial is a program that is made by chance, with instances of its modules.
type trial struct {
	*rand.Rand
	*sample.Maker
	p      api.Program
	source string
}

// trials runs do for programs that are made by chance, the same in each run.
func trials(t *testing.T, seed uint64, programs int, do func(x trial)) {
	t.Helper()
	for i := range programs {
		r := rand.New(rand.NewPCG(seed*1000+uint64(i), 7))
		m := sample.New(r)
		p, source, f := m.Program()
		if f.Err != api.OK {
			t.Fatalf("%v:\n%s", f, source)
		}
		do(trial{r, m, p, source})
	}
}

// instance makes an instance of some module.
func (x trial) instance() string {
	for range 100 {
		f := x.p.Faces[x.IntN(len(x.p.Faces))]
		text := f.Name
		if f.Param {
			text, _ = kind.Named(f.Name, x.Type(2))
		}
		if plainInstance(x.p, text) {
			return text
		}
	}
	return "main"
}

// instances makes some instances.
func (x trial) instances(most int) []string {
	var l []string
	for range x.IntN(most + 1) {
		l = append(l, x.instance())
	}
	return l
}
