package sample_test

import (
	"math/rand/v2"
	"slices"
	"strings"
	"testing"

	"argus/api"
	"argus/check"
	"argus/face"
	"argus/sample"
)

func newMaker(seed uint64) *sample.Maker { return sample.New(rand.New(rand.NewPCG(seed, 1))) }

// Programs are valid, have a main, and are the same whenever chance is.
func TestPrograms(t *testing.T) {
	sources := map[string]bool{}
	for seed := range uint64(30) {
		p, source, f := newMaker(seed).Program()
		if f.Err != api.OK || check.CheckProgram(p) != api.OK {
			t.Fatalf("%v:\n%s", f, source)
		}
		main, e := face.SigOf(p.Faces, nil, "main", "")
		if e != api.OK || main.Iter || !slices.Equal(main.Args, []string{"int", "bool"}) || !slices.Contains([]string{"", "int", "bool"}, main.Result) {
			t.Errorf("main: %v, %d", main, e)
		}
		if _, again, _ := newMaker(seed).Program(); again != source {
			t.Errorf("%s\nis not\n%s", again, source)
		}
		sources[source] = true
	}
	if len(sources) != 30 {
		t.Errorf("only %d programs", len(sources))
	}
}

// Routines have the signatures that they are said to have, and types are good.
func TestRoutines(t *testing.T) {
	for seed := range uint64(10) {
		m := newMaker(seed)
		p, source, _ := m.Program()
		for _, r := range m.Routines {
			if r.HasArg {
				r = r.With("int")
			}
			var sig api.Sig
			var e api.Errno
			if of, op, isOperation := strings.Cut(r.Ref, "$"); isOperation {
				sig, e = face.OpOf(p.Faces, nil, of, op)
			} else {
				name, arg, _ := strings.Cut(strings.TrimSuffix(r.Ref, "}"), "{")
				sig, e = face.SigOf(p.Faces, nil, name, arg)
			}
			if e != api.OK || sig.Iter != r.IsIter || sig.Result != r.Result || !slices.Equal(sig.Args, r.Args) || !slices.Equal(sig.Signals, r.Signals) {
				t.Errorf("%v: %v, %d of\n%s", r, sig, e, source)
			}
		}
		for range 50 {
			of := m.Type(3)
			if e := face.Good(p.Faces, nil, false, of); e != api.OK {
				t.Errorf("%s: %d", of, e)
			}
		}
	}
}

func TestDivided(t *testing.T) {
	names, types := sample.Divided("record[a:int,bc:record[d:int,e:array[bool]],f:x[?t]]")
	if strings.Join(names, " ") != "a bc f" || strings.Join(types, " ") != "int record[d:int,e:array[bool]] x[?t]" {
		t.Errorf("%q, %q", names, types)
	}
}
