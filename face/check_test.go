package face_test

import (
	"slices"
	"strings"
	"testing"

	"argus/api"
	"argus/face"
)

func askCheck(t *testing.T, what string, f api.Face, want api.Errno) {
	t.Helper()
	if e := face.Check(f); e != want {
		t.Errorf("Check, %s: %d, not %d", what, e, want)
	}
}

// letters returns so many names in ascending order, with something in front.
func letters(front string, n int) []string {
	var l []string
	for i := range n {
		l = append(l, front+string(rune('a'+i)))
	}
	return l
}

// fullSig has as much as a signature can have.
func fullSig() api.Sig {
	args := []string{"?t", wide(100), nested(6, "?t"), "nowhere[?t]", "null", "int"}
	return api.Sig{Iter: true, Args: args, Result: "oneof[a:?t]", Signals: append(letters("s", 5), "twelveletter")}
}

// full has as much as a face can have.
func full() api.Face {
	f := api.Face{Name: "twelveletter", Kind: api.ModCluster, Param: true}
	for _, name := range letters("n", 4) {
		f.Needs = append(f.Needs, api.Need{Op: name, Sig: fullSig()})
	}
	for i, name := range letters("p", 20) {
		f.Ops = append(f.Ops, api.Op{Name: name, Sig: fullSig()})
		f.Ops[i].Sig.Iter = i%2 == 0
	}
	return f
}

func TestCheckOfGoodFaces(t *testing.T) {
	askCheck(t, "full", full(), api.OK)
	other := full()
	slices.Reverse(other.Ops)
	askCheck(t, "operations in another order", other, api.OK)
	for _, f := range more() {
		askCheck(t, f.Name, f, api.OK)
	}
	for what, f := range map[string]api.Face{
		"a closed cluster":             newFace("cluster a", "op b proc(a,b[int]) returns c[c]"),
		"a procedure":                  newFace("proc a", "op a proc()"),
		"a procedure with a result":    newFace("proc a", "op a proc() returns int"),
		"an iterator":                  newFace("iter a", "op a iter() yields int"),
		"an iterator with a parameter": newFace("iter a[t]", "has b iter(?t) yields int", "op a iter() yields int"),
		"a parameter without use":      newFace("proc a[t]", "op a proc()"),
		"an operation with its name":   newFace("cluster a", "op a proc()"),
		"needs and operations alike":   newFace("cluster a[t]", "has b proc()", "op b proc()"),
	} {
		askCheck(t, what, f, api.OK)
	}
}

func TestCheckOfFacesThatAreNotAsSaid(t *testing.T) {
	askCheck(t, "the zero value", api.Face{}, api.ErrFace)
	for _, name := range []string{"", "end", "Set", "1", "a_b", "a b", "?t", "thirteenlette", "int", "a[t]"} {
		f := full()
		f.Name = name
		askCheck(t, "named "+name, f, api.ErrFace)
	}
	for _, kind := range []uint8{0, 4, 255} {
		f := full()
		f.Kind = kind
		askCheck(t, "of another kind", f, api.ErrFace)
	}
	for what, change := range map[string]func(f *api.Face){
		"needs without a parameter":        func(f *api.Face) { *f = newFace("cluster a", "has b proc()", "op c proc()") },
		"five needs":                       func(f *api.Face) { f.Needs = append(f.Needs, api.Need{Op: "z"}) },
		"needs that descend":               func(f *api.Face) { f.Needs[2].Op, f.Needs[3].Op = "nd", "nc" },
		"a need twice":                     func(f *api.Face) { f.Needs[3].Op = "nc" },
		"a need of a reserved word":        func(f *api.Face) { f.Needs[0].Op = "mod" },
		"a need of two names":              func(f *api.Face) { f.Needs[0].Op = "get_a" },
		"a need without a name":            func(f *api.Face) { f.Needs[0].Op = "" },
		"the last need of no name":         func(f *api.Face) { f.Needs[3].Op = "z_z" },
		"no operations":                    func(f *api.Face) { f.Ops = nil },
		"twenty-one operations":            func(f *api.Face) { f.Ops = append(f.Ops, api.Op{Name: "z"}) },
		"an operation twice":               func(f *api.Face) { f.Ops[19].Name = "pa" },
		"two neighbours alike":             func(f *api.Face) { f.Ops[1].Name = "pa" },
		"an operation of a reserved word":  func(f *api.Face) { f.Ops[0].Name = "not" },
		"an operation of two names":        func(f *api.Face) { f.Ops[19].Name = "get_a" },
		"an operation without a name":      func(f *api.Face) { f.Ops[19].Name = "" },
		"an operation with too long a one": func(f *api.Face) { f.Ops[19].Name = "thirteenlette" },
	} {
		f := full()
		change(&f)
		askCheck(t, what, f, api.ErrFace)
	}
}

func TestCheckOfProceduresAndIterators(t *testing.T) {
	for what, f := range map[string]api.Face{
		"no operation":               newFace("proc a"),
		"two operations":             newFace("proc a", "op a proc()", "op b proc()"),
		"the same one twice":         newFace("proc a", "op a proc()", "op a proc()"),
		"another name":               newFace("proc a", "op b proc()"),
		"a procedure that iterates":  newFace("proc a", "op a iter() yields int"),
		"an iterator that does not":  newFace("iter a", "op a proc() returns int"),
		"an iterator with no result": newFace("iter a", "op a iter()"),
		"an iterator without one":    newFace("iter a"),
		"two iterators":              newFace("iter a", "op a iter() yields int", "op b iter() yields int"),
		"a wrong argument":           newFace("proc a", "op a proc(array)"),
		"an open argument":           newFace("proc a", "op a proc(?t)"),
		"an open result":             newFace("iter a", "op a iter() yields array[?t]"),
		"an open one of a cluster":   newFace("cluster a", "op a proc()", "op b proc(int,a[?t])"),
		"an open result of one":      newFace("cluster a", "op a proc()", "op b proc() returns ?t"),
		"needs without a parameter":  newFace("proc a", "has b proc()", "op a proc()"),
	} {
		askCheck(t, what, f, api.ErrFace)
	}
}

// wrongSigs changes signatures so that they are not as said.
func wrongSigs() map[string]func(s *api.Sig) {
	m := map[string]func(s *api.Sig){
		"seven arguments":         func(s *api.Sig) { s.Args = append(s.Args, "int") },
		"iterators that are none": func(s *api.Sig) { s.Iter, s.Result = true, "" },
		"seven signals":           func(s *api.Sig) { s.Signals = letters("s", 7) },
		"signals that descend":    func(s *api.Sig) { s.Signals = []string{"a", "c", "b"} },
		"a signal twice":          func(s *api.Sig) { s.Signals = []string{"a", "b", "b"} },
		"a reserved word":         func(s *api.Sig) { s.Signals = []string{"signal"} },
		"a signal of two names":   func(s *api.Sig) { s.Signals = []string{"a_b"} },
		"a signal without a name": func(s *api.Sig) { s.Signals = []string{""} },
		"a signal too long":       func(s *api.Sig) { s.Signals = []string{"thirteenlette"} },
		"an empty argument":       func(s *api.Sig) { s.Args[5] = "" },
	}
	for _, typ := range []string{"array", "?u", "record[b:int,a:int]", "int[int]", "array[ int]", nested(7, "int"), wide(101), "Set", "thirteenlette", "proc()"} {
		m["the first argument "+typ] = func(s *api.Sig) { s.Args[0] = typ }
		m["the last argument "+typ] = func(s *api.Sig) { s.Args[5] = typ }
		m["the result "+typ] = func(s *api.Sig) { s.Result = typ }
	}
	return m
}

func TestCheckOfSignatures(t *testing.T) {
	for what, change := range wrongSigs() {
		f := full()
		change(&f.Needs[0].Sig)
		askCheck(t, what+" in the first need", f, api.ErrFace)
		f = full()
		change(&f.Needs[3].Sig)
		askCheck(t, what+" in the last need", f, api.ErrFace)
		f = full()
		change(&f.Ops[0].Sig)
		askCheck(t, what+" in the first operation", f, api.ErrFace)
		f = full()
		change(&f.Ops[19].Sig)
		askCheck(t, what+" in the last operation", f, api.ErrFace)
		f = api.Face{Name: "a", Kind: api.ModIter, Param: true, Ops: []api.Op{{Name: "a", Sig: fullSig()}}}
		change(&f.Ops[0].Sig)
		askCheck(t, what+" in an iterator", f, api.ErrFace)
	}
}

func askAll(t *testing.T, what string, l []api.Face, at int, want api.Errno) {
	t.Helper()
	if i, e := face.CheckAll(l); i != at || e != want {
		t.Errorf("CheckAll, %s: %d, %d, not %d, %d", what, i, e, at, want)
	}
}

func TestCheckAllOfLibraries(t *testing.T) {
	askAll(t, "none", nil, 0, api.OK)
	askAll(t, "the examples", examples(), 0, api.OK)
	askAll(t, "more", more(), 0, api.OK)
	for name, x := range noLibraries() {
		askAll(t, name, x.faces, x.at, x.e)
	}
	askAll(t, "twenty", noLibraries()["twenty-one"].faces[:20], 0, api.OK)
}

func TestCheckAllHasTheFirstFace(t *testing.T) {
	wrong := newFace("proc wrong")
	early := newFace("proc a")
	bad := newFace("proc b", "op b proc(nowhere)")
	unfit := newFace("proc c", "op c proc(set[null],set[set[int]])")
	many := func(l ...api.Face) []api.Face {
		for _, name := range letters("z", 21-len(l)) {
			l = append(l, newFace("proc "+name, "op "+name+" proc()"))
		}
		return l
	}
	for what, x := range map[string]refused{
		"two wrong":                              {[]api.Face{set(), wrong, early}, 1, api.ErrFace},
		"wrong ahead of descending":              {[]api.Face{set(), early}, 1, api.ErrFace},
		"descending ahead of wrong":              {[]api.Face{sortFace(), set(), wrong}, 1, api.ErrTwice},
		"a type ahead of descending":             {[]api.Face{bad, sortFace(), set()}, 2, api.ErrTwice},
		"a type ahead of wrong":                  {[]api.Face{bad, set(), wrong}, 2, api.ErrFace},
		"two types":                              {[]api.Face{bad, unfit, set()}, 0, api.ErrNone},
		"the second face":                        {[]api.Face{newFace("proc a", "op a proc()"), unfit, set()}, 1, api.ErrFit},
		"descending ahead of too many":           {many(sortFace(), set()), 1, api.ErrTwice},
		"a type ahead of too many":               {many(bad), 20, api.ErrLimit},
		"wrong ahead of too many":                {many(set(), wrong), 1, api.ErrFace},
		"the first one is named as none is":      {[]api.Face{{Kind: 1, Ops: ops(" proc()")}}, 0, api.ErrFace},
		"a name that is longer by one":           {[]api.Face{newFace("proc ab", "op ab proc()"), newFace("proc a", "op a proc()")}, 1, api.ErrTwice},
		"names apart":                            {[]api.Face{newFace("proc a", "op a proc()"), newFace("proc ab", "op ab proc()")}, 0, api.OK},
		"twice, apart":                           {[]api.Face{set(), sortFace(), set()}, 2, api.ErrTwice},
		"digits ahead of letters":                {[]api.Face{newFace("proc a1", "op a1 proc()"), newFace("proc aa", "op aa proc()")}, 0, api.OK},
		"too many, the last one's type not good": {append(many()[:20], bad), 20, api.ErrLimit},
	} {
		askAll(t, what, x.faces, x.at, x.e)
	}
}

// The types of a face are asked in the order of its text: none and unfit tell which one was the first.
func TestCheckAllHasTheFirstType(t *testing.T) {
	none, unfit := "nowhere", "set[set[?t]]"
	base := []string{"has a proc(ONE,TWO) returns THREE", "has b proc(FOUR)", "op d proc(FIVE) returns SIX", "op c iter(SEVEN) yields EIGHT"}
	places := strings.Split("ONE TWO THREE FOUR FIVE SIX SEVEN EIGHT", " ")
	for i, first := range places {
		for _, second := range append(places[i+1:], "") {
			for types, want := range map[[2]string]api.Errno{{none, unfit}: api.ErrNone, {unfit, none}: api.ErrFit} {
				pairs := []string{first, types[0]}
				if second != "" {
					pairs = append(pairs, second, types[1])
				}
				for _, place := range places {
					if place != first && place != second {
						pairs = append(pairs, place, "array[?t]")
					}
				}
				f := newFace("cluster x[t]", strings.Split(strings.NewReplacer(pairs...).Replace(strings.Join(base, "\n")), "\n")...)
				askAll(t, first+" ahead of "+second, []api.Face{set(), f}, 1, want)
			}
		}
	}
}

func TestCheckAllAsksEachFaceInItsOwnScope(t *testing.T) {
	for what, x := range map[string]struct {
		f api.Face
		e api.Errno
	}{
		"the need of set":            {newFace("cluster a[t]", "has "+hasEqual, "op b proc(set[?t])"), api.OK},
		"no need":                    {newFace("cluster a[t]", "op b proc(set[?t])"), api.ErrFit},
		"another need":               {newFace("cluster a[t]", "has "+hasLt, "op b proc(set[?t])"), api.ErrFit},
		"an array has equal":         {newFace("cluster a[t]", "op b proc(set[array[?t]])"), api.OK},
		"a need with its own type":   {newFace("cluster a[t]", "has b proc(a[?t],?t)", "op b proc()"), api.OK},
		"a need with another":        {newFace("cluster a[t]", "has b proc(a[int])", "op b proc()"), api.ErrFit},
		"a face without a parameter": {newFace("cluster a", "op b proc(a,set[int])"), api.OK},
		"an argument too many":       {newFace("cluster a", "op b proc(a[int])"), api.ErrNone},
		"an argument too few":        {newFace("cluster a[t]", "op b proc(a)"), api.ErrNone},
		"a procedure is no type":     {newFace("proc a", "op a proc(a)"), api.ErrNone},
		"nor one that comes later":   {newFace("proc a", "op a proc(sort[int])"), api.ErrNone},
		"a cluster that comes later": {newFace("proc a", "op a proc(set[int])"), api.OK},
	} {
		askAll(t, what, []api.Face{x.f, set(), sortFace()}, 0, x.e)
	}
}

func TestFind(t *testing.T) {
	for _, want := range more() {
		if f, e := face.Find(more(), want.Name); e != api.OK || !isSame(f, want) {
			t.Errorf("Find(%s): %s, %d", want.Name, show(f), e)
		}
	}
	for _, name := range []string{"", "se", "sets", "Set", "int", "set[t]", "set[int]", "zzz", "?t"} {
		if f, e := face.Find(more(), name); e != api.ErrNone || !isEmpty(f) {
			t.Errorf("Find(%q): %s, %d", name, show(f), e)
		}
	}
	if _, e := face.Find(nil, "set"); e != api.ErrNone {
		t.Errorf("Find without faces: %d", e)
	}
	for what, x := range noLibraries() {
		if f, e := face.Find(x.faces, "set"); e != x.e || !isEmpty(f) {
			t.Errorf("Find, %s: %s, %d", what, show(f), e)
		}
	}
}
