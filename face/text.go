package face

import (
	"iter"
	"strings"

	"argus/api"
)

// fronts has the words of modules by their kinds.
var fronts = [...]string{api.ModProc: "proc", api.ModIter: "iter", api.ModCluster: "cluster"}

// Write returns the text of a face.
func Write(f api.Face) (string, api.Errno) {
	if !isFace(f) {
		return "", api.ErrFace
	}
	var b strings.Builder
	for line := range lines(f) {
		b.WriteString(line)
		b.WriteByte('\n')
	}
	return b.String(), api.OK
}

// lines yields the lines of a face's text without their line feeds.
func lines(f api.Face) iter.Seq[string] {
	return func(yield func(string) bool) {
		head := fronts[f.Kind] + " " + f.Name
		if f.Param {
			head += "[t]"
		}
		if !yield(head) {
			return
		}
		for _, n := range f.Needs {
			if !yield("has " + n.Op + " " + sigText(n.Sig)) {
				return
			}
		}
		for _, o := range f.Ops {
			if !yield("op " + o.Name + " " + sigText(o.Sig)) {
				return
			}
		}
	}
}

func sigText(s api.Sig) string {
	front, gives := "proc(", " returns "
	if s.Iter {
		front, gives = "iter(", " yields "
	}
	text := front + strings.Join(s.Args, ",") + ")"
	if s.Result != "" {
		text += gives + s.Result
	}
	if len(s.Signals) > 0 {
		text += " signals(" + strings.Join(s.Signals, ",") + ")"
	}
	return text
}

// Read returns the face with a text.
func Read(s string) (api.Face, api.Errno) {
	// What is read loosely is right if it is written in just this way.
	f := read(s)
	if again, e := Write(f); e != api.OK || again != s {
		return api.Face{}, api.ErrForm
	}
	return f, api.OK
}

func read(s string) api.Face {
	f := api.Face{}
	for line := range strings.Lines(s) {
		front, rest, _ := strings.Cut(strings.TrimSuffix(line, "\n"), " ")
		name, sig, _ := strings.Cut(rest, " ")
		switch front {
		case "has":
			f.Needs = append(f.Needs, api.Need{Op: name, Sig: readSig(sig)})
		case "op":
			f.Ops = append(f.Ops, api.Op{Name: name, Sig: readSig(sig)})
		default:
			f.Kind = kindOf(front)
			f.Name, f.Param = strings.CutSuffix(rest, "[t]")
		}
	}
	return f
}

// kindOf returns the kind of module with a word, or 0.
func kindOf(front string) uint8 {
	for i, x := range fronts {
		if x == front {
			return uint8(i)
		}
	}
	return 0
}

func readSig(text string) api.Sig {
	front, rest, _ := strings.Cut(text, "(")
	args, rest, _ := strings.Cut(rest, ")")
	s := api.Sig{Iter: front == "iter", Args: split(args)}
	for _, gives := range []string{" returns ", " yields "} {
		if after, isThere := strings.CutPrefix(rest, gives); isThere {
			s.Result, _, _ = strings.Cut(after, " ")
			rest = after[len(s.Result):]
		}
	}
	signals, _ := strings.CutPrefix(rest, " signals(")
	s.Signals = split(strings.TrimSuffix(signals, ")"))
	return s
}

// split divides a text at its commas outside brackets.
func split(s string) []string {
	if s == "" {
		return nil
	}
	var l []string
	depth, from := 0, 0
	for i := range len(s) {
		switch s[i] {
		case '[':
			depth++
		case ']':
			depth--
		case ',':
			if depth == 0 {
				l = append(l, s[from:i])
				from = i + 1
			}
		}
	}
	return append(l, s[from:])
}
