package mean_test

import (
	"fmt"
	"slices"
	"strings"
	"testing"

	"argus/api"
	"argus/kind"
	"argus/mean"
)

// How many routines may stand inside each other: 400 may.
func TestDepth(t *testing.T) {
	p := programOf(t, town, `
proc odd(n: int) returns bool is if n = 0 then return false end; return even(n - 1) end
proc even(n: int) returns bool is if n = 0 then return true end; return odd(n - 1) end
iter dive(n: int) yields int is if n = 0 then yield 0 else for x: int in dive(n - 1) do yield x end end end
proc inbody(n: int) is for x: int in upto(1, 1) do put deep(n) end end
proc inbodies(n: int) is for x: int in upto(1, 1) do for y: int in upto(1, 1) do put deep(n) end end end
proc initer(n: int) is for x: int in calls(n) do put x end end
iter calls(n: int) yields int is yield deep(n) end
proc loops(n: int) is for x: int in upto(1, 1) do for y: int in dive(n) do put deep(398) end end end`)
	for _, x := range []struct {
		start string
		most  int
		end   string
	}{
		{"deep", 399, "done 399"},
		{"even", 399, "done false"},
		{"odd", 399, "done true"},
		{"inbody", 398, "done put 398"},
		{"inbodies", 398, "done put 398"},
		{"initer", 397, "done put 397"},
		{"loops", 398, "done put 398"},
	} {
		for more, end := range []string{x.end, "spent"} {
			r := askCall(t, p, nil, x.start, []api.Value{{Kind: api.ValInt, N: x.most + more}}, many, 0)
			if showEnd(r) != end || r.Steps == many {
				t.Errorf("F1: %s(%d): %s, not %s", x.start, x.most+more, showRan(r), end)
			}
			if again, e := mean.Run(p, x.start, []int{x.most + more}, r.Steps); e != api.OK || showRan(again) != showRan(r) {
				t.Errorf("P6.3: %s(%d): %s, %d, not %s", x.start, x.most+more, showRan(again), e, showRan(r))
			}
		}
	}
	for more, want := range []string{"done", "spent"} {
		l, r, _ := each(t, p, nil, "dive", fmt.Sprint(399+more), many, 1)
		if len(l) != 1-more || showEnd(r) != want {
			t.Errorf("F3: %s, %s", showValues(l), showRan(r))
		}
	}
}

// Kids of a call are evaluated ahead of the call, which is one too many.
func TestDepthBehindKids(t *testing.T) {
	p := programOf(t, town, "proc p(n: int) returns int is if n = 0 then return idles(say(7)) end; return p(n - 1) end proc idles(n: int) returns int is put n; return n end")
	r := askCall(t, p, nil, "p", vals("398"), many, 0)
	if showEnd(r) != "done 7 put 7 7" {
		t.Errorf("F2: %s", showRan(r))
	}
	r = askCall(t, p, nil, "p", vals("399"), many, 0)
	if showEnd(r) != "spent" {
		t.Errorf("F2: %s", showRan(r))
	}
	p = programOf(t, town, "proc p(n: int) returns int is if n = 0 then return array[int]$size(array[int]$new()) end; return p(n - 1) end")
	if r = askCall(t, p, nil, "p", vals("399"), many, 0); showEnd(r) != "done 0" {
		t.Errorf("F2: what is built in is no routine: %s", showRan(r))
	}
}

// What stands as deep in each other as steps allow: no limit but those of the document.
func TestDeepest(t *testing.T) {
	sum := strings.Repeat("(1 + ", 90) + "p(n - 1)" + strings.Repeat(")", 90)
	p := programOf(t, "proc p(n: int) returns int is if n = 0 then return 0 end; return "+sum+" end")
	if r := askCall(t, p, nil, "p", vals("399"), many, 0); showEnd(r) != "done 35910" {
		t.Errorf("F2: %s", showRan(r))
	}
	nested := strings.Repeat("if true then ", 60) + "p(n + 1)" + strings.Repeat(" end", 60)
	p = programOf(t, "proc p(n: int) is "+nested+" end")
	if r := askCall(t, p, nil, "p", vals("0"), many, 0); showEnd(r) != "spent" {
		t.Errorf("F2: %s", showRan(r))
	}
}

func manyObjects(n int) []api.Obj {
	return slices.Repeat(heap("array"), n)
}

// How many objects there may be: 5000 may.
func TestObjects(t *testing.T) {
	p := programOf(t, town, `
proc arrays(n: int) returns array[int] is var a: array[int] := array[int]$new(); while 1 < n do a := array[int]$new(); n := n - 1 end; return a end
proc records(n: int) returns record[a:int] is var a: record[a:int] := record[a:int]$make(say(n)); while 1 < n do a := record[a:int]$make(n); n := n - 1 end; return a end
proc oneofs(n: int) returns oneof[a:int] is var a: oneof[a:int] := oneof[a:int]$make_a(n); while 1 < n do a := oneof[a:int]$make_a(n); n := n - 1 end; return a end
proc change(a: array[int]) returns int is array[int]$addh(a, 4); a[1] := 5; return array[int]$remh(a) end`)
	for _, ref := range []string{"arrays", "records", "oneofs"} {
		for _, x := range []struct {
			there, made int
			end         string
			after       int
		}{
			{4999, 1, "done @4999", 5000},
			{5000, 1, "spent", 5000},
			{4998, 2, "done @4999", 5000},
			{4998, 3, "spent", 5000},
			{0, 4999, "done @4998", 4999},
			{0, 5000, "done @4999", 5000},
			{0, 5001, "spent", 5000},
		} {
			args := []api.Value{{Kind: api.ValInt, N: x.made}}
			r, h, e := mean.Call(p, manyObjects(x.there), ref, args, many)
			put := ""
			if ref == "records" {
				put = fmt.Sprint(" put ", x.made)
			}
			if e != api.OK || showEnd(r) != x.end+put || len(h) != x.after || r.Steps == many {
				t.Errorf("F2: %s(%d) with %d objects: %s, %d objects, %d", ref, x.made, x.there, showRan(r), len(h), e)
			}
			askCall(t, p, manyObjects(x.there), ref, args, many, 0)
		}
	}
	r, h := call(t, p, manyObjects(5000), "change", "@7", many)
	if showEnd(r) != "done 5" || len(h) != 5000 {
		t.Errorf("F2: %s, %d objects", showRan(r), len(h))
	}
	r, e := mean.Run(programOf(t, "proc p(n: int) is while 0 < n do array[int]$new(); n := n - 1 end; put n end"), "p", []int{5000}, many)
	if e != api.OK || showEnd(r) != "done put 0" {
		t.Errorf("F1: %s, %d", showRan(r), e)
	}
}

// wide returns a record type of so many bytes, from 58 to 92, with two levels.
func wide(t *testing.T, bytes int) string {
	t.Helper()
	var parts []string
	for i := range 5 {
		parts = append(parts, strings.Repeat(string(rune('a'+i)), 5)+":int")
	}
	s := "record[" + strings.Join(parts, ",") + "]"
	for i := 0; len(s) < bytes; i++ {
		name := string(rune('a' + i%5))
		s = strings.Replace(s, name+":", name+name+":", 1)
	}
	if len(s) != bytes || kind.Check(s) != api.OK {
		t.Fatalf("%s has %d bytes", s, len(s))
	}
	return s
}

// A run is spent where what is called would be too long with the argument, or have too many levels: behind the kids.
func TestTypesThatAreTooLarge(t *testing.T) {
	p := programOf(t, `
proc a[t]() is b{record[f:?t]}(say(1)) end
proc b[t](n: int) is put 2 end
proc c[t]() is for x: int in d{record[f:?t]}(say(1)) do put x end end
iter d[t](n: int) yields int is yield 2 end
proc e[t]() is k[record[f:?t]]$f(say(1)) end
cluster k[t] is f rep = int proc f(n: int) is put 2 end end
proc g[t]() is array[record[h:?t]]$new(); put 2 end
proc grow[t](n: int) returns int is if n < 1 then return 0 end; return 1 + grow{array[?t]}(n - 1) end
proc m[t](n: int) is if 0 < n then m{?t}(n - 1) end; put n end
proc say(n: int) returns int is put n; return n end`)
	for _, x := range []struct {
		ref   string
		bytes int
		ends  [2]string
	}{
		{"a", 87, [2]string{"done put 1 2", "spent put 1"}},
		{"c", 87, [2]string{"done put 1 2", "spent put 1"}},
		{"e", 87, [2]string{"done put 1 2", "spent put 1"}},
		{"g", 83, [2]string{"done put 2", "spent"}},
	} {
		for more, end := range x.ends {
			arg := wide(t, x.bytes+more)
			r := askCall(t, p, nil, x.ref+"["+arg+"]", nil, many, 0)
			if showEnd(r) != end || r.Steps == many {
				t.Errorf("F2: %s with %d bytes: %s, not %s", x.ref, len(arg), showRan(r), end)
			}
		}
	}
	for n, end := range []string{"done 0", "done 1", "done 2", "done 3", "done 4", "spent", "spent"} {
		if r := askCall(t, p, nil, "grow[int]", []api.Value{{Kind: api.ValInt, N: n}}, many, 0); showEnd(r) != end {
			t.Errorf("F2: grow(%d): %s, not %s", n, showRan(r), end)
		}
	}
	if r := askCall(t, p, nil, "m[int]", vals("99"), many, 0); r.Kind != api.RanDone || len(r.Put) != 100 {
		t.Errorf("F2: %s", showRan(r))
	}
}

// P6.3: runs that are spent for other reasons than steps are the same with more steps.
func TestSpentIsTheSame(t *testing.T) {
	p := programOf(t, town, "proc p(n: int) is put n; put deep(n); put 1 end")
	r, _ := call(t, p, nil, "p", "399", many)
	again, _ := call(t, p, nil, "p", "399", r.Steps)
	if showEnd(r) != "spent put 399" || showRan(again) != showRan(r) {
		t.Errorf("P6.3: %s, %s", showRan(r), showRan(again))
	}
	less, _ := call(t, p, nil, "p", "399", r.Steps-1)
	if showEnd(less) != "spent put 399" || less.Steps != r.Steps-1 {
		t.Errorf("P6.3: %s", showRan(less))
	}
}

// A run that does not end is spent when the steps are used up, and has put a beginning.
func TestNoEnd(t *testing.T) {
	for _, x := range []struct{ source, end string }{
		{"proc p() is while true do end end", "spent"},
		{"proc p() is put 1; for x: int in ever() do end end iter ever() yields int is while true do yield 1 end end", "spent put 1"},
		{"proc p() is begin while true do signal a end except when others: put 1; while true do end end end", "spent put 1"},
		{"proc p() is while true do begin signal a except when others: end end end", "spent"},
	} {
		p := programOf(t, x.source)
		for _, steps := range []int{0, 1, 2, 20, 100, 1000, many} {
			r, e := mean.Run(p, "p", nil, steps)
			if e != api.OK || r.Kind != api.RanSpent || r.Steps != steps || steps > 10 && showEnd(r) != x.end {
				t.Errorf("F1: %s, %d steps: %s, %d", x.source, steps, showRan(r), e)
			}
		}
	}
	p := programOf(t, "proc p() is p() end")
	for steps, want := range map[int]string{0: "spent, 0 steps", 1199: "spent, 1199 steps", 1200: "spent, 1200 steps", 1201: "spent, 1200 steps", many: "spent, 1200 steps"} {
		if r, e := mean.Run(p, "p", nil, steps); e != api.OK || showRan(r) != want {
			t.Errorf("F1: %d steps: %s, %d, not %s", steps, showRan(r), e, want)
		}
	}
}
