package token_test

import (
	"math/rand/v2"
	"regexp"
	"slices"
	"strings"
	"testing"

	"argus/api"
	"argus/token"
)

// The lists of the chapter, once more.
const (
	chapterWords = "and array begin bool break cluster do down else elseif end except false for has if in int is iter mod nil not null oneof or others proc put record rep return returns signal signals tag tagcase then true up var when where while yield yields"
	chapterSigns = "$ ( ) * + , - . / : := ; < <= = ? [ ] _ { }"
)

var (
	pieceForm  = regexp.MustCompile(`^(?:[ \t\n]+|%[^\n]*|[a-z][a-z0-9]*|[0-9]+|:=|<=|[-$()*+,./:;<=?\[\]_{}])`)
	numberForm = regexp.MustCompile(`^(?:0|[1-9][0-9]{0,8}|1000000000)$`)
)

// plainScan is a second way to do what Scan and Comments are to do.
func plainScan(src string) (tokens []api.Token, comments []string, f api.Fault) {
	if len(src) > 20000 {
		return nil, nil, api.Fault{Err: api.ErrLimit}
	}
	line := 1
	for rest := src; rest != ""; {
		s := pieceForm.FindString(rest)
		if s == "" {
			return nil, nil, api.Fault{Err: api.ErrChar, At: line}
		}
		rest = rest[len(s):]
		switch b := s[0]; {
		case strings.IndexByte(" \t\n", b) >= 0:
			line += strings.Count(s, "\n")
		case b == '%':
			comments = append(comments, s)
		default:
			kind, e := plainKind(s)
			if e != api.OK {
				return nil, nil, api.Fault{Err: e, At: line}
			}
			tokens = append(tokens, api.Token{Kind: kind, Text: s, Line: line})
		}
	}
	return tokens, comments, api.Fault{}
}

func plainKind(s string) (uint8, api.Errno) {
	switch b := s[0]; {
	case '0' <= b && b <= '9':
		if !numberForm.MatchString(s) {
			return 0, api.ErrNumber
		}
		return api.TokNumber, api.OK
	case b < 'a' || b > 'z':
		return api.TokSign, api.OK
	case len(s) > 12:
		return 0, api.ErrLong
	case slices.Contains(strings.Fields(chapterWords), s):
		return api.TokWord, api.OK
	}
	return api.TokName, api.OK
}

// sampleTokens has all words and signs, and names and numbers of all sorts, all on the line 1.
func sampleTokens() []api.Token {
	var l []api.Token
	add := func(kind uint8, texts string) {
		for _, s := range strings.Fields(texts) {
			l = append(l, api.Token{Kind: kind, Text: s, Line: 1})
		}
	}
	add(api.TokWord, chapterWords)
	add(api.TokSign, chapterSigns)
	add(api.TokName, "a z x1 a12 if2 ifx endend nots procs twelveletter a23456789012")
	add(api.TokNumber, "0 1 9 10 12 999999999 1000000000")
	return l
}

// sampleTexts returns texts of all sorts, the same in each run: most of them can be read, many only just.
func sampleTexts(n int) []string {
	r := rand.New(rand.NewPCG(1, 2))
	pieces := append(strings.Fields(chapterSigns), strings.Fields(chapterWords)...)
	pieces = append(pieces, "a", "b7", "z", "twelveletter", "0", "1", "7", "12", "1000000000", "% note", "%", "%% := 1\r\x00\xff!", "=", "<", ":")
	gaps := []string{"", "", "", " ", "  ", "\t", "\n", "\n\n", " \n\t"}
	faults := []string{"!", "A", ">", "\r", "\x00", "\xc3\xa9", "007", "1000000001", "thirteenlette"}
	var texts []string
	for range n {
		var b strings.Builder
		for range r.IntN(30) {
			b.WriteString(pieces[r.IntN(len(pieces))])
			b.WriteString(gaps[r.IntN(len(gaps))])
			if r.IntN(100) == 0 {
				b.WriteString(faults[r.IntN(len(faults))])
			}
		}
		texts = append(texts, b.String())
	}
	return texts
}

// mustScan returns the tokens of a text that can be read.
func mustScan(t *testing.T, src string) []api.Token {
	t.Helper()
	l, f := token.Scan(src)
	if f != (api.Fault{}) {
		t.Fatalf("Scan of %.40q: %v", src, f)
	}
	return l
}

// unlined returns tokens without their lines.
func unlined(l []api.Token) []api.Token {
	l = slices.Clone(l)
	for i := range l {
		l[i].Line = 0
	}
	return l
}
