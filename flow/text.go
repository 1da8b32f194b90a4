package flow

import (
	"slices"
	"strconv"
	"strings"

	"argus/api"
)

// writer collects the lines of a text.
type writer struct {
	strings.Builder
}

// line writes words, with one blank between two.
func (w *writer) line(words ...string) {
	w.WriteString(strings.Join(words, " "))
	w.WriteByte('\n')
}

// numbers writes a word, and numbers behind it.
func (w *writer) numbers(word string, lists ...[]int) {
	w.WriteString(word)
	for _, l := range lists {
		for _, n := range l {
			w.WriteByte(' ')
			w.WriteString(strconv.Itoa(n))
		}
	}
	w.WriteByte('\n')
}

func (w *writer) ins(word string, x *api.Ins) {
	w.numbers(word, []int{int(x.Op), x.To, x.A, x.B, x.N}, x.Args)
}

func (w *writer) end(x *api.End) {
	w.numbers("end", []int{int(x.Kind), x.A, x.B, x.To, x.Else, x.Others}, x.Args)
	if x.Name != "" {
		w.line("name", x.Name)
	}
	if x.Kind == api.EndTry {
		w.ins("try", &x.Ins)
	}
	for _, when := range x.Whens {
		w.line("when", when.Name, strconv.Itoa(when.To))
	}
}

// Write returns the text of a flow.
func Write(f api.Flow) (string, api.Errno) {
	if e := Check(f); e != api.OK {
		return "", e
	}
	var w writer
	sort := "proc"
	if f.Iter {
		sort = "iter"
	}
	w.line("flow", f.Name, sort, strconv.Itoa(f.Args), strconv.Itoa(int(f.Result)))
	w.numbers("regs", each(f.Regs, func(k uint8) int { return int(k) }))
	w.numbers("slots", each(f.Slots, func(k uint8) int { return int(k) }))
	w.line(slices.Concat([]string{"signals"}, f.Signals)...)
	for i := range f.Blocks {
		b := &f.Blocks[i]
		w.line("block")
		for j := range b.Ins {
			w.ins("ins", &b.Ins[j])
		}
		w.end(&b.End)
	}
	return w.String(), api.OK
}

// each returns what a function makes of all items of a list.
func each[A, B any](l []A, do func(A) B) []B {
	out := make([]B, len(l))
	for i, x := range l {
		out[i] = do(x)
	}
	return out
}

// Read returns the valid flow with a text.
func Read(s string) (api.Flow, api.Errno) {
	r := reader{lines: strings.Split(s, "\n")}
	f := r.flow()
	// What was read though it is not written so has another text.
	if text, e := Write(f); e != api.OK || text != s {
		return api.Flow{}, api.ErrForm
	}
	return f, api.OK
}

// reader reads lines one after the other. It takes what is there: whether that is all, and as it is written, is asked at the end.
type reader struct {
	lines []string
}

// line returns the words behind the first one of the next line, if this has some first word, and whether it has.
func (r *reader) line(word string) ([]string, bool) {
	if len(r.lines) == 0 {
		return nil, false
	}
	words := strings.Split(r.lines[0], " ")
	if words[0] != word {
		return nil, false
	}
	r.lines = r.lines[1:]
	return words[1:], true
}

// numbers returns the numbers of the next line: as many as there are to be at least, and those that are more.
func (r *reader) numbers(word string, n int) (first, more []int, isThere bool) {
	words, isThere := r.line(word)
	l := each(words, numberOf)
	for len(l) < n {
		l = append(l, 0)
	}
	return l[:n:n], slices.Clone(l[n:]), isThere
}

// numberOf returns the number that a word is, or 0.
func numberOf(word string) int {
	n, err := strconv.Atoi(word)
	if err != nil {
		return 0
	}
	return n
}

func (r *reader) flow() api.Flow {
	words, _ := r.line("flow")
	words = append(words, "", "", "", "")
	f := api.Flow{Name: words[0], Iter: words[1] == "iter", Args: numberOf(words[2]), Result: uint8(numberOf(words[3]))}
	kind := func(n int) uint8 { return uint8(n) }
	_, regs, _ := r.numbers("regs", 0)
	_, slots, _ := r.numbers("slots", 0)
	f.Regs, f.Slots = each(regs, kind), each(slots, kind)
	f.Signals, _ = r.line("signals")
	for {
		if _, isThere := r.line("block"); !isThere {
			return f
		}
		f.Blocks = append(f.Blocks, r.block())
	}
}

func (r *reader) block() api.Block {
	var b api.Block
	for {
		x, isThere := r.ins("ins")
		if !isThere {
			b.End = r.end()
			return b
		}
		b.Ins = append(b.Ins, x)
	}
}

func (r *reader) ins(word string) (api.Ins, bool) {
	l, args, isThere := r.numbers(word, 5)
	return api.Ins{Op: uint8(l[0]), To: l[1], A: l[2], B: l[3], N: l[4], Args: args}, isThere
}

func (r *reader) end() api.End {
	l, args, _ := r.numbers("end", 6)
	e := api.End{Kind: uint8(l[0]), A: l[1], B: l[2], To: l[3], Else: l[4], Others: l[5], Args: args}
	if words, isThere := r.line("name"); isThere {
		e.Name = strings.Join(words, " ")
	}
	if e.Kind == api.EndTry {
		e.Ins, _ = r.ins("try")
	}
	for {
		words, isThere := r.line("when")
		if !isThere {
			return e
		}
		words = append(words, "", "")
		e.Whens = append(e.Whens, api.When{Name: words[0], To: numberOf(words[1])})
	}
}
