// Package token is layer 1: it divides texts into tokens, writes tokens as texts, and finds the shortest text with the same tokens.
package token

import "argus/api"

// Both tables are arrays, which are copied where they are returned, in ascending order of their bytes.
var (
	allWords = [...]string{
		"and", "array", "begin", "bool", "break", "cluster", "do", "down", "else", "elseif",
		"end", "except", "false", "for", "has", "if", "in", "int", "is", "iter",
		"mod", "nil", "not", "null", "oneof", "or", "others", "proc", "put", "record",
		"rep", "return", "returns", "signal", "signals", "tag", "tagcase", "then", "true", "up",
		"var", "when", "where", "while", "yield", "yields",
	}
	allSigns = [...]string{
		"$", "(", ")", "*", "+", ",", "-", ".", "/", ":", ":=",
		";", "<", "<=", "=", "?", "[", "]", "_", "{", "}",
	}
)

// Words returns all reserved words in ascending order.
func Words() []string {
	words := allWords
	return words[:]
}

// Signs returns all signs in ascending order.
func Signs() []string {
	signs := allSigns
	return signs[:]
}

// IsWord reports whether a string is a reserved word.
func IsWord(s string) bool {
	for _, w := range allWords {
		if w == s {
			return true
		}
	}
	return false
}

// IsName reports whether a string is a name.
func IsName(s string) bool {
	if s == "" || len(s) > api.MaxName || !isLetter(s[0]) || IsWord(s) {
		return false
	}
	for i := range len(s) {
		if !isLetterOrDigit(s[i]) {
			return false
		}
	}
	return true
}

func isLetter(b byte) bool { return 'a' <= b && b <= 'z' }

func isDigit(b byte) bool { return '0' <= b && b <= '9' }

func isLetterOrDigit(b byte) bool { return isLetter(b) || isDigit(b) }

func isSign(s string) bool {
	for _, sign := range allSigns {
		if sign == s {
			return true
		}
	}
	return false
}

// lexicon is the reserved words, to be looked up while texts are read.
type lexicon map[string]bool

func newLexicon() lexicon {
	x := make(lexicon, len(allWords))
	for _, w := range allWords {
		x[w] = true
	}
	return x
}

// isToken reports whether a token has the Kind of its Text; its Line is not asked.
func (x lexicon) isToken(t api.Token) bool { return x.readsAs(t.Text, t) }

// readsAs reports whether a text has exactly these tokens, all on its first line; their own Lines are not asked.
func (x lexicon) readsAs(src string, want ...api.Token) bool {
	got, _, f := x.read(src)
	if f != (api.Fault{}) || len(got) != len(want) {
		return false
	}
	for i, t := range want {
		t.Line = 1
		if got[i] != t {
			return false
		}
	}
	return true
}
