package mean_test

import (
	"testing"

	"argus/api"
	"argus/mean"
)

// The modules of the chapter's examples.
const examples = `
iter upto(a: int, b: int) yields int signals (low) is if b < a then signal low end; while a <= b do yield a; a := a + 1 end end
proc main(n: int) returns int signals (low) is var s: int := 0; for x: int in upto(1, n) do if x = 4 then break end; put x; s := s + x end; begin s := s / (n - 2) except when zerodivide: put 99 end; return s end
proc deep(n: int) returns int is if n < 1 then return 0 end; return 1 + deep(n - 1) end
cluster box[t] is new, get rep = record[v:?t]
  proc new(x: ?t) returns box[?t] is return up(record[v:?t]$make(x)) end
  proc get(b: box[?t]) returns ?t is return down(b).v end
end
`

func TestExamplesOfRun(t *testing.T) {
	p := programOf(t, examples)
	for _, x := range []struct {
		start string
		arg   int
		want  string
	}{
		{"main", 3, "done 6 put 1 2 3"},
		{"main", 2, "done 3 put 1 2 99"},
		{"main", 9, "done 0 put 1 2 3"},
		{"main", 0, "signal low"},
		{"deep", 399, "done 399"},
		{"deep", 400, "spent"},
	} {
		r, e := mean.Run(p, x.start, []int{x.arg}, 100000)
		if e != api.OK || showEnd(r) != x.want {
			t.Errorf("F1: Run(%s, %d): %s, %d", x.start, x.arg, showRan(r), e)
		}
	}
	for _, x := range []struct {
		start string
		args  []int
		want  api.Errno
	}{
		{"upto", []int{1, 2}, api.ErrRef},
		{"main", nil, api.ErrGiven},
		{"main", []int{2000000000}, api.ErrGiven},
	} {
		if r, e := mean.Run(p, x.start, x.args, 100000); e != x.want || showRan(r) != "kind 0, 0 steps" {
			t.Errorf("F1: Run(%s, %d): %s, %d", x.start, x.args, showRan(r), e)
		}
	}
}

func TestExamplesOfCallAndEach(t *testing.T) {
	p := programOf(t, examples)
	r, h := call(t, p, nil, "box[int]$new", "7", 100000)
	if showEnd(r) != "done @0" || showHeap(h) != "record 7" {
		t.Errorf("F2: %s, %s", showRan(r), showHeap(h))
	}
	l, r, _ := each(t, p, nil, "upto", "5 9", 100000, 3)
	if showValues(l) != "5 6 7" || showEnd(r) != "done" {
		t.Errorf("F3: %s, %s", showValues(l), showRan(r))
	}
	l, r, _ = each(t, p, nil, "upto", "5 4", 100000, 3)
	if len(l) > 0 || showEnd(r) != "signal low" {
		t.Errorf("F3: %s, %s", showValues(l), showRan(r))
	}
}

func TestExamplesOfTypes(t *testing.T) {
	p := programOf(t, examples)
	h := heap("array")
	for other, want := range map[string]bool{"array[int]": true, "array[bool]": false} {
		if is, e := mean.Fits(p, h, vals("@0 @0"), []string{"array[int]", other}); is != want || e != api.OK {
			t.Errorf("F4: %s: %v, %d", other, is, e)
		}
	}
	if b, e := mean.Bottom(p, "box[box[int]]"); b != "record[v:box[int]]" || e != api.OK {
		t.Errorf("F4: %s, %d", b, e)
	}
	if b, e := mean.Bottom(p, "?t"); b != "" || e != api.ErrArg {
		t.Errorf("F4: %s, %d", b, e)
	}
}

func TestExamplesOfAlike(t *testing.T) {
	g, v, e := mean.Reached(heap("array; record @0"), vals("@1"))
	if showHeap(g) != "record @1; array" || showValues(v) != "@0" || e != api.OK {
		t.Errorf("F5: %s, %s, %d", showHeap(g), showValues(v), e)
	}
	if areAlike(t, heap("array"), vals("@0 @0"), heap("array; array"), vals("@0 @1")) {
		t.Error("F5: one array is like two")
	}
}
