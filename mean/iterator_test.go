package mean_test

import (
	"slices"
	"strings"
	"testing"

	"argus/api"
	"argus/mean"
)

// Loops over iterators, and what gives an iterator up.
func TestLoops(t *testing.T) {
	for _, x := range []struct{ source, end string }{
		{"proc p() is for x: int in upto(1, 3) do put x end; put 9 end", "done put 1 2 3 9"},
		{"proc p() is for x: int in none() do put x end; put 9 end iter none() yields int is put 1 end", "done put 1 9"},
		{"proc p() is for x: int in three() do put x end; put 9 end iter three() yields int is yield 1; put 5; yield 2; put 6; return; yield 3 end", "done put 1 5 2 6 9"},
		{"proc p() is for x: int in three() do put x; break; put 8 end; put 9 end iter three() yields int is yield 1; put 5; yield 2 end", "done put 1 9"},
		{"proc p() returns int is for x: int in three() do put x; return x end; put 9 end iter three() yields int is yield 1; put 5; yield 2 end", "done 1 put 1"},
		{"proc p() is begin for x: int in three() do put x; signal low end except when low: put 7 end end iter three() yields int is begin yield 1 except when others: put 5 end; yield 2 end", "done put 1 7"},
		{"proc p() signals (low) is for x: int in three() do put x; signal low end end iter three() yields int is begin yield 1 except when others: put 5 end; yield 2 end", "signal low put 1"},
		{"proc p() is for x: int in three() do begin signal low except when low: put x end end end iter three() yields int is yield 1; yield 2 end", "done put 1 2"},
		{"proc p() is for x: int in three() do begin put x except when low: put 8 end end end iter three() yields int signals (low) is yield 1; signal low end", "signal failure put 1"},
		{"proc p() is begin for x: int in three() do put x end except when low: put 8 end end iter three() yields int signals (low) is yield 1; signal low end", "done put 1 8"},
		{"proc p() is for x: int in three() do if x = 2 then break end; put x end end iter three() yields int is while true do yield 1; yield 2; yield 3 end end", "done put 1"},
		{"proc p() is while true do for x: int in upto(1, 3) do put x; break end; put 7; break end end", "done put 1 7"},
		{"proc p() is for x: int in upto(1, 2) do while true do break end; put x end end", "done put 1 2"},
		{"proc p() is for x: int in upto(1, 2) do for y: int in upto(x, 3) do put y; if y = 2 then break end end end end", "done put 1 2 2"},
		{"proc p() is for x: int in upto(1, 9) do x := x + 5; put x; if 8 < x then return end end end", "done put 6 7 8 9"},
		{"proc p() is for x: int in again(3) do put x end end iter again(n: int) yields int is if 0 < n then for x: int in again(n - 1) do yield x end; yield n end end", "done put 1 2 3"},
		{"proc p() is for x: int in again(3) do put x; if x = 2 then break end end; put 9 end iter again(n: int) yields int is if 0 < n then for x: int in again(n - 1) do yield x; put 100 + n end; yield n end end", "done put 1 103 102 2 9"},
		{"proc p() returns int is for x: int in again(4) do if x = 2 then return x end end; return 0 end iter again(n: int) yields int is if 0 < n then for x: int in again(n - 1) do begin yield x except when others: put 5 end end; yield n end end", "done 2"},
		{"proc p() is begin for x: int in again(4) do if x = 2 then signal low end end except when low: put 7 end end iter again(n: int) yields int is if 0 < n then for x: int in again(n - 1) do begin yield x except when others: put 5 end end; yield n end end", "done put 7"},
		{"proc p() is for c: coin in coin$twice(coin$make(true)) do if coin$heads(c) then put 1 else put 0 end end end", "done put 1 0"},
		{"proc p() is var b: bag[int] := bag[int]$new(); bag[int]$add(b, 5); bag[int]$add(b, 6); for x: int in bag[int]$each(b) do put x; if x < 9 then bag[int]$add(b, x + 2) end end end", "done put 5 6 7 8 9 10"},
		{"proc p() is for x: int in items{int}(array[int]$new()) do put x end; put 1 end", "done put 1"},
		{"proc p() is for x: int in list[int]$each(list[int]$cons(1, list[int]$cons(2, list[int]$empty()))) do put x end end", "done put 1 2"},
		{"proc p() is for x: int in wrap() do put x end end iter wrap() yields int is for y: int in upto(1, 2) do yield y * 10 end; for z: int in upto(3, 4) do return end; yield 5 end", "done put 10 20"},
		{"proc p() is for x: int in wrap() do put x; break end end iter wrap() yields int is while true do yield 1; put 8 end; put 9 end", "done put 1"},
		{"proc p() is for x: int in wrap() do put x end; put 3 end iter wrap() yields int is while true do yield 1; break end; for x: int in upto(5, 6) do break end; yield 2 end", "done put 1 2 3"},
		{"proc p() is for x: int in wrap() do put x end end iter wrap() yields int signals (low) is for y: int in upto(2, 1) do yield y end end", "signal failure"},
		{"proc p() is begin for x: int in wrap() do put x end except when low: put 1 end end iter wrap() yields int signals (low) is for y: int in upto(2, 1) do yield y end end", "done put 1"},
	} {
		askEnd(t, "F1", x.source, x.end)
	}
}

// Through its parameter a module runs the iterator of the type that is put in.
func TestIteratorsOfParameters(t *testing.T) {
	p := programOf(t, town, `
proc sum[t](x: ?t) returns int where t has each: iter(?t) yields int is var s: int := 0; for n: int in ?t$each(x) do s := s + n end; return s end
proc p(n: int) returns int is var b: bag[int] := bag[int]$new(); bag[int]$add(b, n); bag[int]$add(b, 1); return sum{bag[int]}(b) end
proc q(n: int) returns int is return sum{list[int]}(list[int]$cons(n, list[int]$cons(n, list[int]$empty()))) end`)
	for ref, want := range map[string]string{"p": "done 8", "q": "done 14"} {
		if r := askCall(t, p, nil, ref, vals("7"), many, 0); showEnd(r) != want {
			t.Errorf("F2: %s: %s", ref, showRan(r))
		}
	}
}

// F3: what is yielded, up to so many values, and how it ends.
func TestEach(t *testing.T) {
	p := programOf(t, town, `
iter forever(n: int) yields int is while true do yield n; put n; n := n + 1 end end
iter bad(n: int) yields int signals (low) is yield n; put n; yield 2; signal low end
iter worse(n: int) yields int is yield n; signal low end
iter some(n: int) yields int is yield n; yield 2; put 9; return; yield 3 end
iter boxes(n: int) yields box[int] is yield box[int]$new(n); yield box[int]$new(n + 1) end
iter bools(n: int) yields bool is yield n < 3; yield n = 3 end
iter guarded(n: int) yields int is begin yield n except when others: put 1 end; yield 2 end`)
	for _, x := range []struct {
		ref, args, heap string
		most            int
		yields, ran     string
		after           string
	}{
		{"upto", "5 9", "", 3, "5 6 7", "done, 32 steps", ""},
		{"upto", "5 9", "", 1, "5", "done, 12 steps", ""},
		{"upto", "5 6", "", 2, "5 6", "done, 22 steps", ""},
		{"upto", "5 6", "", 3, "5 6", "done, 29 steps", ""},
		{"upto", "5 6", "", 1000, "5 6", "done, 29 steps", ""},
		{"upto", "5 4", "", 1, "", "signal low, 7 steps", ""},
		{"upto", "5 5", "", 1000, "5", "done, 19 steps", ""},
		{"forever", "1", "", 1, "1", "done, 6 steps", ""},
		{"forever", "1", "", 3, "1 2 3", "done put 1 2, 26 steps", ""},
		{"bad", "7", "", 1, "7", "done, 3 steps", ""},
		{"bad", "7", "", 2, "7 2", "done put 7, 7 steps", ""},
		{"bad", "7", "", 3, "7 2", "signal low put 7, 8 steps", ""},
		{"worse", "7", "", 3, "7", "signal failure, 4 steps", ""},
		{"some", "7", "", 2, "7 2", "done, 5 steps", ""},
		{"some", "7", "", 3, "7 2", "done put 9, 8 steps", ""},
		{"boxes", "7", "array", 9, "@1 @2", "done, 19 steps", "array; record 7; record 8"},
		{"boxes", "7", "array", 1, "@1", "done, 9 steps", "array; record 7"},
		{"bools", "3", "", 9, "false true", "done, 9 steps", ""},
		{"guarded", "3", "", 1, "3", "done, 5 steps", ""},
		{"items[int]", "@1", "array; array 4 5", 9, "4 5", "done, 34 steps", "array; array 4 5"},
		{"items[bool]", "@0", "array true", 9, "true", "done, 21 steps", "array true"},
		{"coin$twice", "true", "", 9, "true false", "done, 12 steps", ""},
		{"bag[bool]$each", "@0", "array false true", 9, "false true", "done, 45 steps", "array false true"},
		{"bag[bool]$each", "@0", "array false true", 1, "false", "done, 21 steps", "array false true"},
		{"list[int]$each", "@0", "oneof0 nil", 9, "", "done, 6 steps", "oneof0 nil"},
	} {
		l, r, h := each(t, p, heap(x.heap), x.ref, x.args, many, x.most)
		if showValues(l) != x.yields || showRan(r) != x.ran || showHeap(h) != x.after {
			t.Errorf("F3: %s(%s), most %d: %s, %s, %s", x.ref, x.args, x.most, showValues(l), showRan(r), showHeap(h))
		}
		askCall(t, p, heap(x.heap), x.ref, vals(x.args), many, x.most)
		askEachSteps(t, p, heap(x.heap), x.ref, x.args, x.most)
	}
}

// askEachSteps asks for P6.3 of an iterator, with all numbers of steps up to what it takes.
func askEachSteps(t *testing.T, p api.Program, h []api.Obj, ref, args string, most int) {
	t.Helper()
	l, whole, after := each(t, p, h, ref, args, many, most)
	for steps := range whole.Steps + 2 {
		k, r, g := each(t, p, h, ref, args, steps, most)
		if steps >= whole.Steps {
			if !slices.Equal(k, l) || showRan(r) != showRan(whole) || showHeap(g) != showHeap(after) {
				t.Errorf("P6.3: %s(%s), %d steps: %s, not %s", ref, args, steps, showRan(r), showRan(whole))
			}
			continue
		}
		if r.Kind != api.RanSpent || r.Steps != steps || r.Signal != "" || !isBeginning(k, l) || !isBeginning(r.Put, whole.Put) {
			t.Errorf("P6.3: %s(%s), %d steps: %s, %s", ref, args, steps, showValues(k), showRan(r))
		}
	}
}

// P6.6: fewer values are a beginning of more.
func TestFewerValues(t *testing.T) {
	p := programOf(t, town, "iter forever(n: int) yields int is while true do yield n; n := n + 1 end end", "iter three() yields int signals (low) is yield 1; yield 2; yield 3; signal low end")
	for _, ref := range []string{"forever", "three"} {
		args := map[string]string{"forever": "7"}[ref]
		before := []api.Value{}
		for most := 1; most <= 1000; most = most*3/2 + 1 {
			l, r, _ := each(t, p, nil, ref, args, many, most)
			if !isBeginning(before, l) || len(l) > most {
				t.Errorf("P6.6: %s, most %d: %d values behind %d", ref, most, len(l), len(before))
			}
			if ref == "forever" && (len(l) != most || showEnd(r) != "done") {
				t.Errorf("F3: most %d: %d values, %s", most, len(l), showRan(r))
			}
			before = l
		}
	}
	l, r, _ := each(t, p, nil, "forever", "7", many, 1000)
	if len(l) != 1000 || showValue(l[999]) != "1006" || showEnd(r) != "done" {
		t.Errorf("F3: %d values, %s", len(l), showRan(r))
	}
	l, r, _ = each(t, p, nil, "forever", "7", 100, 1000)
	if len(l) != 12 || showRan(r) != "spent, 100 steps" {
		t.Errorf("F3: %d values, %s", len(l), showRan(r))
	}
}

// An iterator that was given up is not run any more, however deep its loops stand in each other.
func TestGivenUpInDepth(t *testing.T) {
	source := "iter dive(n: int) yields int is if n = 0 then while true do yield 0; put 999 end else for x: int in dive(n - 1) do begin yield x + 1; put n except when others: put 888 end end end end "
	for _, body := range []string{"return", "break", "signal low", "put 1 / 0"} {
		p := programOf(t, town, source+"proc p() signals (low) is begin for x: int in dive(50) do put x; "+body+" end except when zerodivide: put 5 end end")
		want := "done put 50"
		switch body {
		case "signal low":
			want = "signal low put 50"
		case "put 1 / 0":
			want = "done put 50 5"
		}
		if r := askCall(t, p, nil, "p", nil, many, 0); showEnd(r) != want {
			t.Errorf("F2: %s: %s", body, showRan(r))
		}
	}
	p := programOf(t, town, source)
	l, r, _ := each(t, p, nil, "dive", "50", many, 2)
	if showValues(l) != "50 50" || !strings.HasPrefix(showEnd(r), "done put 50 49 48") {
		t.Errorf("F3: %s, %s", showValues(l), showRan(r))
	}
}

// Two loops at once over one iterator have a run of it each.
func TestLoopsAtOnce(t *testing.T) {
	askEnd(t, "F1", "proc p() is for x: int in upto(1, 3) do for y: int in upto(1, 3) do if y = x then break end; put (x * 10) + y end end end", "done put 21 31 32")
	p := programOf(t, town)
	for _, most := range []int{1, 2} {
		if _, _, _, e := mean.Each(p, nil, "upto", vals("1 2"), 0, most); e != api.OK {
			t.Errorf("F3: %d", e)
		}
	}
}
