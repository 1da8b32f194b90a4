package lower_test

import (
	"testing"

	"argus/api"
)

// Which handler a signal goes to, and what becomes of one that has none.
func TestSignals(t *testing.T) {
	for _, x := range []struct{ rest, want string }{
		{"() signals (low) is signal low", "signal low"},
		{"() is signal low", "signal failure"},
		{"() signals (high) is signal low", "signal failure"},
		{"() signals (failure) is signal low", "signal failure"},
		{"() signals (low) is q() end proc q() signals (low) is signal low", "signal low"},
		{"() signals (low) is q() end proc q() is signal low", "signal failure"},
		{"() is q() end proc q() signals (low) is signal low", "signal failure"},
		{"() is begin q() except when low: put 1 end end proc q() is signal low", "signal failure"},
		{"() is begin q() except when failure: put 1 end end proc q() is signal low", "done put 1"},
		{"() is begin q() except when low: put 1 end end proc q() signals (low) is signal low", "done put 1"},
		{"() is begin q() except when failure: put 1 end end proc q() signals (failure) is signal failure", "done put 1"},
		{"() signals (overflow) is put 1000000000 + 1", "signal overflow"},
		{"() is put 1000000000 + 1", "signal failure"},
		{"() returns int is", "signal failure"},
		{"() returns int is begin put 1 except when failure: put 2 end", "signal failure put 1"},
		{"() is put q() end proc q() returns int is", "signal failure"},
		{"() is begin put q() except when failure: put 2 end end proc q() returns int is if false then return 1 end", "done put 2"},
		{"() is for x: int in q() do put x end end iter q() yields int signals (low) is signal low", "signal failure"},
		{"() signals (low) is for x: int in q() do put x end end iter q() yields int is yield 1; signal low", "signal failure put 1"},
		{"() signals (low) is for x: int in q() do put x end end iter q() yields int signals (low) is yield 1; signal low", "signal low put 1"},
	} {
		askMain(t, "proc main"+x.rest+" end", x.want)
	}
}

func TestHandlers(t *testing.T) {
	for _, x := range []struct{ statements, want string }{
		{"begin signal a except when a: put 1 when b: put 2 when others: put 3 end", "done put 1"},
		{"begin signal b except when a: put 1 when b: put 2 when others: put 3 end", "done put 2"},
		{"begin signal c except when a: put 1 when b: put 2 when others: put 3 end", "done put 3"},
		{"begin signal c except when a: put 1 when b: put 2 end", "signal failure"},
		{"begin signal a except when a: put 1 when a: put 2 end", "done put 1"},
		{"begin signal failure except when others: put 1 end", "done put 1"},
		{"begin put 1; signal a; put 2 except when a: put 3 end; put 4", "done put 1 3 4"},
		{"begin put 1 except when a: put 2 when others: put 3 end; put 4", "done put 1 4"},
		{"begin signal a except when a: signal b when b: put 2 when others: put 3 end", "signal failure"},
		{"begin begin signal a except when a: signal b end except when b: put 1 end", "done put 1"},
		{"begin begin signal a except when b: put 1 end except when a: put 2 end", "done put 2"},
		{"begin begin signal a except when others: put 1 end except when a: put 2 end", "done put 1"},
		{"begin begin put 1 / 0 except when overflow: put 1 end except when zerodivide: put 2 end", "done put 2"},
		{"begin put say(1) + (1 / 0) except when zerodivide: put 2 end", "done put 1 2"},
		{"begin put (1 / 0) + say(1) except when zerodivide: put 2 end", "done put 2"},
		{"begin if 1 = (1 / 0) then put 1 else put 2 end except when others: put 3 end", "done put 3"},
		{"begin while 1 = (1 / 0) do put 1 end except when others: put 3 end", "done put 3"},
		{"var i: int := 2; begin while 1 = (i / i) do i := i - 1; put i end except when others: put 9 end", "done put 1 0 9"},
		{"var x: int := 1; begin x := 1 / 0 except when others: put x end", "done put 1"},
		{"var x: int := 1; begin x := array[int]$remh(array[int]$new()) except when others: put x end", "done put 1"},
		{"var b: bool := false; begin b := 1 < (1 / 0) except when others: if not b then put 1 end end", "done put 1"},
		{"begin tagcase oneof[a:int]$make_a(1 / 0) tag a(x: int): put x end except when others: put 1 end", "done put 1"},
		{"begin tagcase oneof[a:int,b:int]$make_a(1) tag b(x: int): put x end except when tag0: put 1 when others: put 2 end", "done put 2"},
		{"while true do begin signal a except when a: break end end; put 1", "done put 1"},
		{"while true do begin break except when others: put 1 end end; put 2", "done put 2"},
		{"begin return except when others: put 1 end; put 2", "done"},
		{"begin signal a except when a: return end; put 2", "done"},
		{"begin for x: int in upto(2, 1) do put x end except when low: put 9 end", "done put 9"},
		{"begin for x: int in upto(1, 1 / 0) do put x end except when zerodivide: put 9 when others: put 8 end", "done put 9"},
		{"var a: array[int] := trio{int}(1, 2); begin a[4] := 5 except when bounds: put 4 end; begin put a[0] except when bounds: put 0 end", "done put 4 0"},
		{"begin idle(); say(1) except when failure: put 3 end", "done put 1"},
		{"begin put 1000000000 * 2 except when overflow: put 1 end; begin put 1 mod 0 except when overflow: put 3 when zerodivide: put 2 end", "done put 1 2"},
	} {
		askMain(t, "proc main() is "+x.statements+" end", x.want)
	}
}

const iterators = `
iter three() yields int is begin yield 1 except when others: put 5 end; put 6; yield 2; put 7; yield 3 end
iter bad() yields int signals (low) is yield 1; signal low end
iter again(n: int) yields int is if 0 < n then for x: int in again(n - 1) do begin yield x except when others: put 5 end; put 100 + n end; yield n end end
`

// What a loop over an iterator is left by, and that nothing more of the iterator is done then.
func TestLeftLoops(t *testing.T) {
	for _, x := range []struct{ rest, want string }{
		{"() is for x: int in three() do put x end; put 9", "done put 1 6 2 7 3 9"},
		{"() is for x: int in three() do put x; break end; put 9", "done put 1 9"},
		{"() returns int is for x: int in three() do put x; return x end; put 9", "done 1 put 1"},
		{"() signals (low) is for x: int in three() do put x; signal low end", "signal low put 1"},
		{"() is begin for x: int in three() do put x; signal low end except when low: put 8 end", "done put 1 8"},
		{"() is begin for x: int in three() do put x; put x / 0 end except when zerodivide: put 8 end", "done put 1 8"},
		{"() is begin for x: int in three() do put x; fail() end except when low: put 8 end; put 9 end proc fail() signals (low) is signal low", "done put 1 8 9"},
		{"() is for x: int in three() do begin signal low except when low: put x end end", "done put 1 6 2 7 3"},
		{"() is for x: int in bad() do begin put x except when low: put 8 end end", "signal failure put 1"},
		{"() is begin for x: int in bad() do put x end except when low: put 8 end", "done put 1 8"},
		{"() is begin for x: int in three() do for y: int in bad() do put y end end except when low: put 8 end; put 9", "done put 1 8 9"},
		{"() is for x: int in three() do begin for y: int in bad() do put y end except when low: put 8 end end", "done put 1 8 6 1 8 7 1 8"},
		{"() is for x: int in again(3) do put x end", "done put 1 103 102 2 103 3"},
		{"() is for x: int in again(3) do put x; if x = 2 then break end end; put 9", "done put 1 103 102 2 9"},
		{"() returns int is for x: int in again(3) do if x = 2 then return x end end", "done 2 put 103 102"},
		{"() is var n: int := 0; while n < 2 do n := n + 1; begin for x: int in three() do put x; put 1 / (n - 2) end except when zerodivide: put 8 end end", "done put 1 -1 6 2 -1 7 3 -1 1 8"},
		{"() is for x: int in upto(1, 2) do for y: int in three() do for z: int in three() do put z; break end; break end; put x end", "done put 1 1 1 2"},
	} {
		askMain(t, iterators+"proc main"+x.rest+" end", x.want)
	}
}

// Iterations that are left behind within the routine are closed, the inner ones first.
func TestClosedIterations(t *testing.T) {
	for _, x := range []struct {
		body   string
		closed int
	}{
		{"for x: int in upto(1, 2) do put x end", 0},
		{"for x: int in upto(1, 2) do break end", 1},
		{"for x: int in upto(1, 2) do return end", 0},
		{"for x: int in upto(1, 2) do while true do break end end", 0},
		{"begin for x: int in upto(1, 2) do signal a end except when a: put 1 end", 1},
		{"begin for x: int in upto(1, 2) do put x / 0 end except when zerodivide: put 1 end", 1},
		{"begin for x: int in upto(1, 2) do idle() end except when failure: put 1 end", 1},
		{"begin for x: int in upto(1, 2) do idle(); idle(); idle() end except when failure: put 1 end", 1},
		{"begin for x: int in upto(1, 2) do for y: int in upto(1, 2) do idle() end end except when failure: put 1 end", 2},
		{"begin for x: int in upto(1, 2) do begin for y: int in upto(1, 2) do idle() end except when failure: put 1 end end except when low: put 2 end", 2},
		{"for x: int in upto(1, 2) do idle() end", 0},
	} {
		p := town(t, "proc main() is "+x.body+" end")
		if l := instructions(lowered(t, p, "main"), api.InsClose); len(l) != x.closed {
			t.Errorf("%s: %v", x.body, l)
		}
		run(t, p)
	}
}

// The signals of an end are named: each once, and none that its callee has not, nor one that leaves the routine.
func TestNamedSignals(t *testing.T) {
	p := town(t, `
proc q() signals (a, b, c, d, e, f) is end
proc r() signals (failure) is end
proc main() is begin q(); r(); put 1 + 1; put 1 / 1 except when b: put 2 when overflow: put 3 when failure: put 4 when z: put 5 end end`)
	f := lowered(t, p, "main")
	var got []string
	for _, b := range f.Blocks {
		s := ""
		for _, w := range b.End.Whens {
			s += w.Name + " "
		}
		if s != "" {
			got = append(got, s)
		}
		if b.End.Others != -1 {
			t.Errorf("%v", b.End)
		}
	}
	if want := []string{"b failure ", "failure ", "overflow "}; len(got) != 3 || got[0] != want[0] || got[1] != want[1] || got[2] != want[2] {
		t.Errorf("%q", got)
	}
	p = town(t, "proc q() signals (a, b, c, d, e, f) is end proc main() is begin q() except when others: put 1 end end")
	if l := endsOf(lowered(t, p, "main"), api.EndCall); len(l) != 1 || len(l[0].Whens) != 7 {
		t.Errorf("%v", l)
	}
}
