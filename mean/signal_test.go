package mean_test

import (
	"testing"

	"argus/api"
	"argus/mean"
)

// What goes on from a routine: a signal as itself if it is one of the Signals, and otherwise as failure.
func TestSignalsOfRoutines(t *testing.T) {
	for _, x := range []struct{ source, want string }{
		{"proc p() signals (low) is signal low end", "signal low, 2 steps"},
		{"proc p() is signal low end", "signal failure, 2 steps"},
		{"proc p() signals (high) is signal low end", "signal failure, 2 steps"},
		{"proc p() signals (failure) is signal low end", "signal failure, 2 steps"},
		{"proc p() is signal failure end", "signal failure, 2 steps"},
		{"proc p() signals (high, low) is put 1; signal low; put 2 end", "signal low put 1, 4 steps"},
		{"proc p() signals (low) is q() end proc q() signals (low) is signal low end", "signal low, 5 steps"},
		{"proc p() signals (low) is q() end proc q() is signal low end", "signal failure, 5 steps"},
		{"proc p() is q() end proc q() signals (low) is signal low end", "signal failure, 5 steps"},
		{"proc p() signals (low) is begin q() except when low: put 1 end end proc q() is signal low end", "signal failure, 7 steps"},
		{"proc p() signals (low) is begin q() except when failure: put 1 end end proc q() is signal low end", "done put 1, 11 steps"},
		{"proc p() signals (low) is begin q() except when low: put 1 end end proc q() signals (low) is signal low end", "done put 1, 11 steps"},
		{"proc p() signals (overflow) is put 1000000000 + 1 end", "signal overflow, 5 steps"},
		{"proc p() is put 1000000000 + 1 end", "signal failure, 5 steps"},
		{"proc p() signals (bounds) is put array[int]$new()[1] end", "signal bounds, 5 steps"},
		{"proc p() returns int is end", "signal failure, 1 steps"},
		{"proc p() returns int signals (failure) is end", "signal failure, 1 steps"},
		{"proc p() returns int signals (low) is put 1 end", "signal failure put 1, 3 steps"},
		{"proc p() is put q() end proc q() returns int is end", "signal failure, 4 steps"},
		{"proc p() is begin put q() except when failure: put 2 end end proc q() returns int is if false then return 1 end end", "done put 2, 12 steps"},
		{"proc p() is for x: int in q() do put x end end iter q() yields int signals (low) is signal low end", "signal failure, 5 steps"},
		{"proc p() signals (low) is for x: int in q() do put x end end iter q() yields int is yield 1; signal low end", "signal failure put 1, 10 steps"},
	} {
		askRun(t, "F1", x.source, x.want)
	}
}

// Which statement of a StExcept is chosen, and that its others are not.
func TestHandlers(t *testing.T) {
	for _, x := range []struct{ statements, end string }{
		{"begin signal a except when a: put 1 when b: put 2 when others: put 3 end", "done put 1"},
		{"begin signal b except when a: put 1 when b: put 2 when others: put 3 end", "done put 2"},
		{"begin signal c except when a: put 1 when b: put 2 when others: put 3 end", "done put 3"},
		{"begin signal c except when a: put 1 when b: put 2 end", "signal failure"},
		{"begin signal a except when a: put 1 when a: put 2 end", "done put 1"},
		{"begin signal failure except when others: put 1 end", "done put 1"},
		{"begin put 1; signal a; put 2 except when a: put 3 end; put 4", "done put 1 3 4"},
		{"begin put 1 except when a: put 2 when others: put 3 end; put 4", "done put 1 4"},
		{"begin signal a except when a: signal b when b: put 2 when others: put 3 end", "signal failure"},
		{"begin begin signal a except when a: signal b end except when b: put 1 end", "done put 1"},
		{"begin begin signal a except when b: put 1 end except when a: put 2 end", "done put 2"},
		{"begin begin signal a except when others: put 1 end except when a: put 2 end", "done put 1"},
		{"begin put say(1) + (1 / 0) except when zerodivide: put 2 end", "done put 1 2"},
		{"begin put (1 / 0) + say(1) except when zerodivide: put 2 end", "done put 2"},
		{"begin if 1 = (1 / 0) then put 1 else put 2 end except when others: put 3 end", "done put 3"},
		{"begin while 1 = (1 / 0) do put 1 end except when others: put 3 end", "done put 3"},
		{"var i: int := 2; begin while 1 = (i / i) do i := i - 1; put i end except when others: put 9 end", "done put 1 0 9"},
		{"var x: int := 1; begin x := 1 / 0 except when others: put x end", "done put 1"},
		{"begin idle(); say(1 / 0) except when others: put 1 end", "done put 1"},
		{"begin tagcase oneof[a:int]$make_a(1 / 0) tag a(x: int): put x end except when others: put 1 end", "done put 1"},
		{"begin tagcase oneof[a:int,b:int]$make_a(1) tag b(x: int): put x end except when failure: put 1 when others: put 2 end", "done put 2"},
		{"tagcase oneof[a:int,b:int]$make_a(1) tag b(x: int): put x end", "signal failure"},
		{"while true do begin signal a except when a: break end end; put 1", "done put 1"},
		{"while true do begin break except when others: put 1 end end; put 2", "done put 2"},
		{"begin return except when others: put 1 end; put 2", "done"},
		{"begin signal a except when a: return end; put 2", "done"},
		{"begin for x: int in upto(2, 1) do put x end except when low: put 9 end", "done put 9"},
		{"begin for x: int in upto(1, 1 / 0) do put x end except when zerodivide: put 9 when others: put 8 end", "done put 9"},
		{"begin return except when a: put 1 end", "done"},
	} {
		askEnd(t, "F1", "proc p() is "+x.statements+" end", x.end)
	}
}

// askEnd asks how a module p without arguments ends, in both ways.
func askEnd(t *testing.T, what, source, want string) {
	t.Helper()
	p := programOf(t, town, source)
	r, e := mean.Run(p, "p", nil, many)
	if e != api.OK || showEnd(r) != want {
		t.Errorf("%s: %s: %s, %d, not %s", what, source, showRan(r), e, want)
	}
	if again := askCall(t, p, nil, "p", nil, many, 0); showRan(again) != showRan(r) {
		t.Errorf("%s: %s: Call: %s, Run: %s", what, source, showRan(again), showRan(r))
	}
}

// A statement that is left by a signal ahead of its end has not done what it does.
func TestSignalsInKids(t *testing.T) {
	for _, x := range []struct{ source, end string }{
		{"proc p() returns int is begin return q() except when low: put 1 end; return 2 end proc q() returns int signals (low) is signal low end", "done 2 put 1"},
		{"proc p() is begin put q() except when low: put 1 end end proc q() returns int signals (low) is signal low end", "done put 1"},
		{"proc p() is for x: int in r() do put x end end iter r() yields int is begin yield q() except when low: yield 5 end end proc q() returns int signals (low) is signal low end", "done put 5"},
		{"proc p() is var a: array[int] := array[int]$new(); begin array[int]$addh(a, q()) except when low: put array[int]$size(a) end end proc q() returns int signals (low) is signal low end", "done put 0"},
		{"proc p() is begin if coin$heads(q()) then put 1 else put 2 end except when low: put 3 end end proc q() returns coin signals (low) is signal low end", "done put 3"},
	} {
		askEnd(t, "F1", x.source, x.end)
	}
}

// What an object has become stays, also if a signal follows.
func TestSignalsKeepChanges(t *testing.T) {
	p := programOf(t, town, "proc spoil(a: array[int]) signals (low) is a[1] := 9; array[int]$addh(a, 8); signal low end")
	r, h := call(t, p, heap("array 1 2"), "spoil", "@0", many)
	if showEnd(r) != "signal low" || showHeap(h) != "array 9 2 8" {
		t.Errorf("F2: %s, %s", showRan(r), showHeap(h))
	}
	r, h = call(t, p, heap("array"), "spoil", "@0", many)
	if showEnd(r) != "signal failure" || showHeap(h) != "array" {
		t.Errorf("F2: %s, %s", showRan(r), showHeap(h))
	}
}
