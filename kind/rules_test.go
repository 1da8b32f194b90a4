package kind_test

import (
	"slices"
	"testing"

	"argus/api"
	"argus/kind"
)

// R1, R2 and the order of the errors: each function has the error of Check for each of its types, and nothing beside it.
func TestErrorsOfTypes(t *testing.T) {
	for s, want := range noTypes() {
		for name, ask := range askers() {
			if name == "Named" && s == "" {
				continue // no argument is none that is wrong
			}
			if empty, e := ask(s); !empty || e != want {
				t.Errorf("%s of %.110q: %d, empty: %v", name, s, e, empty)
			}
		}
	}
}

func TestNumbersOfErrors(t *testing.T) {
	_, _, ofInt := kind.Arg("int")
	_, noName := kind.Named("", "")
	_, twice := kind.Record([]api.Part{{Name: "a", Type: "int"}, {Name: "a", Type: "int"}})
	got := []api.Errno{kind.Check("int"), noName, kind.Check(nested(7)), kind.Check("!"), twice, ofInt}
	if want := []api.Errno{0, 1, 2, 4, 6, 30}; !slices.Equal(got, want) {
		t.Errorf("%d", got)
	}
}

// R2: without a type of the right kind there is nothing beside the error either.
func TestOtherKinds(t *testing.T) {
	for _, s := range sampleTypes(41, 500) {
		n, _ := kind.Kind(s)
		for name, kinds := range map[string][]uint8{"Arg": {api.TypArray, api.TypName}, "Base": {api.TypName}, "Parts": {api.TypRecord, api.TypOneof}} {
			want := api.ErrKind
			if slices.Contains(kinds, n) {
				want = api.OK
			}
			if empty, e := askers()[name](s); e != want || want != api.OK && !empty {
				t.Errorf("%s of %q: %d, empty: %v", name, s, e, empty)
			}
		}
	}
}

// R3: results are new memory.
func TestResultsAreNewMemory(t *testing.T) {
	const s = "record[a:set[int],b:map[?t]]"
	parts, _ := kind.Parts(s)
	inside, _ := kind.Inside(s)
	names, _ := kind.Names(s)
	wantParts, wantInside, wantNames := slices.Clone(parts), slices.Clone(inside), slices.Clone(names)
	clear(parts)
	clear(inside)
	clear(names)
	if again, _ := kind.Parts(s); !slices.Equal(again, wantParts) {
		t.Errorf("Parts: %v", again)
	}
	if again, _ := kind.Inside(s); !slices.Equal(again, wantInside) {
		t.Errorf("Inside: %q", again)
	}
	if again, _ := kind.Names(s); !slices.Equal(again, wantNames) {
		t.Errorf("Names: %q", again)
	}
}

// R4: calls that run at once do not meet.
func TestCallsAtOnce(t *testing.T) {
	types := sampleTypes(42, 300)
	done := make(chan string)
	for range 8 {
		go func() {
			bad := ""
			for i, s := range types {
				p, _ := plainRead(s)
				n, _ := kind.Kind(s)
				names, _ := kind.Names(s)
				if n != p.kind() || !slices.Equal(names, p.typeNames()) || !kindsAgree(s, types[len(types)-1-i]) {
					bad = s
				}
			}
			done <- bad
		}()
	}
	for range 8 {
		if bad := <-done; bad != "" {
			t.Errorf("R4: %q", bad)
		}
	}
}

// kindsAgree reports whether what is put in is found again.
func kindsAgree(s, arg string) bool {
	put := makeWith(s, arg)
	isOpen, _ := kind.Open(s)
	if put.e != api.OK || !isOpen {
		return put.e == api.ErrLimit || put.t == s
	}
	return match(s, put.t) == matched{arg, true, api.OK}
}
