package token_test

import (
	"slices"
	"strings"
	"testing"

	"argus/token"
)

func TestListsOfWordsAndSigns(t *testing.T) {
	if w := token.Words(); !slices.Equal(w, strings.Fields(chapterWords)) || !slices.IsSorted(w) {
		t.Errorf("Words: %q", w)
	}
	if s := token.Signs(); !slices.Equal(s, strings.Fields(chapterSigns)) || !slices.IsSorted(s) {
		t.Errorf("Signs: %q", s)
	}
}

func TestListsAreNewMemory(t *testing.T) {
	for name, list := range map[string]func() []string{"Words": token.Words, "Signs": token.Signs} {
		first := list()
		before := slices.Clone(first)
		for i := range first {
			first[i] = "spoilt"
		}
		if !slices.Equal(list(), before) {
			t.Errorf("R3: %s shares its memory", name)
		}
	}
	if !token.IsWord("if") || token.IsWord("spoilt") || token.IsName("if") {
		t.Errorf("R3: IsWord depends on a result of Words")
	}
}

func TestWordsAreNoNames(t *testing.T) {
	for _, w := range strings.Fields(chapterWords) {
		if !token.IsWord(w) || token.IsName(w) {
			t.Errorf("%q: IsWord %v, IsName %v", w, token.IsWord(w), token.IsName(w))
		}
		for _, s := range []string{w + "q", w + "0", "q" + w} {
			if token.IsWord(s) || !token.IsName(s) {
				t.Errorf("%q: IsWord %v, IsName %v", s, token.IsWord(s), token.IsName(s))
			}
		}
		for _, s := range []string{strings.ToUpper(w), w + " ", " " + w, w + " " + w, w + "\n", w + "_", w + "%"} {
			if token.IsWord(s) || token.IsName(s) {
				t.Errorf("%q: IsWord %v, IsName %v", s, token.IsWord(s), token.IsName(s))
			}
		}
	}
	for _, s := range strings.Fields(chapterSigns) {
		if token.IsWord(s) || token.IsName(s) {
			t.Errorf("%q: IsWord %v, IsName %v", s, token.IsWord(s), token.IsName(s))
		}
	}
}

func TestIsName(t *testing.T) {
	for s, want := range map[string]bool{
		"": false, "t": true, "a1b2c3": true, "z99": true, "thewhile": true,
		"twelveletter": true, "thirteenlette": false, "a12345678901": true, "a123456789012": false,
		"1": false, "1a": false, "a_b": false, "_": false, "A": false, "aB": false, "a b": false, "a%": false,
		"caf\u00e9": false, "\u0430": false, "a\u0661": false, "a\x00": false, "\xff": false,
		strings.Repeat("a", 20001): false, strings.Repeat("a", 1000000): false,
	} {
		if token.IsName(s) != want {
			t.Errorf("IsName of %.20q: %v", s, !want)
		}
		if token.IsWord(s) {
			t.Errorf("IsWord of %.20q", s)
		}
	}
}

func TestAllShortStrings(t *testing.T) {
	const letters, digits = "abcdefghijklmnopqrstuvwxyz", "0123456789"
	words := strings.Fields(chapterWords)
	ask := func(s string) {
		isWord := slices.Contains(words, s)
		isName := !isWord && strings.IndexByte(letters, s[0]) >= 0 && strings.Trim(s, letters+digits) == ""
		if token.IsWord(s) != isWord || token.IsName(s) != isName {
			t.Errorf("%q: IsWord %v, IsName %v", s, token.IsWord(s), token.IsName(s))
		}
	}
	for a := range 256 {
		ask(string([]byte{byte(a)}))
		for b := range 256 {
			ask(string([]byte{byte(a), byte(b)}))
		}
	}
}
