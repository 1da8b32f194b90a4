package token

import "argus/api"

// Check returns the index of the first token that is refused, and its error.
func Check(l []api.Token) (int, api.Errno) {
	x := newLexicon()
	line := 1
	for i, t := range l {
		if i == api.MaxSource {
			return i, api.ErrLimit
		}
		if t.Line < line || t.Line > api.MaxSource || !x.isToken(t) {
			return i, api.ErrArg
		}
		line = t.Line
	}
	return 0, api.OK
}

// Apart reports whether there has to be something between two tokens on one line.
func Apart(a, b api.Token) (bool, api.Errno) {
	x := newLexicon()
	if !x.isToken(a) || !x.isToken(b) {
		return false, api.ErrArg
	}
	return x.apart(a, b), api.OK
}

func (x lexicon) apart(a, b api.Token) bool { return !x.readsAs(a.Text+b.Text, a, b) }

// Print returns a text that has these tokens on their lines.
func Print(l []api.Token) (string, api.Errno) {
	if _, e := Check(l); e != api.OK {
		return "", e
	}
	if len(l) == 0 {
		return "", api.OK
	}
	var out []byte
	line := 1
	gap := false
	for _, t := range l {
		for line < t.Line {
			out = append(out, '\n')
			line++
			gap = false
		}
		if gap {
			out = append(out, ' ')
		}
		out = append(out, t.Text...)
		gap = true
	}
	out = append(out, '\n')
	if len(out) > api.MaxSource {
		return "", api.ErrLimit
	}
	return string(out), api.OK
}

// Tight returns the shortest text that has the same Kinds and Texts of tokens.
func Tight(src string) (string, api.Fault) {
	x := newLexicon()
	l, _, f := x.read(src)
	if f != (api.Fault{}) {
		return "", f
	}
	var out []byte
	for i, t := range l {
		if i > 0 && x.apart(l[i-1], t) {
			out = append(out, ' ')
		}
		out = append(out, t.Text...)
	}
	return string(out), api.Fault{}
}
