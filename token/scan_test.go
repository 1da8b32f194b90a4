package token_test

import (
	"slices"
	"strings"
	"testing"

	"argus/api"
	"argus/token"
)

const firstExample = "x := a[12]  % first\nend"

func TestScanOfExamples(t *testing.T) {
	want := []api.Token{
		{Kind: api.TokName, Text: "x", Line: 1}, {Kind: api.TokSign, Text: ":=", Line: 1},
		{Kind: api.TokName, Text: "a", Line: 1}, {Kind: api.TokSign, Text: "[", Line: 1},
		{Kind: api.TokNumber, Text: "12", Line: 1}, {Kind: api.TokSign, Text: "]", Line: 1},
		{Kind: api.TokWord, Text: "end", Line: 2},
	}
	if l := mustScan(t, firstExample); !slices.Equal(l, want) {
		t.Errorf("%v", l)
	}
	if l := mustScan(t, "x := a[12]  % first"); !slices.Equal(l, want[:6]) {
		t.Errorf("%v", l)
	}
}

func TestScanTakesTheLongestTokens(t *testing.T) {
	for src, want := range map[string]string{
		"a<=b<c": "a <= b < c", "12ab": "12 ab", "a12": "a12", "1a2b": "1 a2b", "0a": "0 a", "0if": "0 if",
		"ifx": "ifx", "if2": "if2", "if_2": "if _ 2", "endend": "endend", "get_f": "get _ f",
		":=": ":=", "::=": ": :=", ":==": ":= =", ":::": ": : :", "<==": "<= =", "<<=": "< <=", "=<=": "= <=", "==": "= =", "<:=": "< :=", "=:": "= :",
		": =": ": =", "<\n=": "< =", "a.b": "a . b", "?t": "? t", "1:2": "1 : 2", "-1": "- 1", "+1": "+ 1", "1.5": "1 . 5",
		"$()*+,-./:;<=?[]_{}": "$ ( ) * + , - . / : ; <= ? [ ] _ { }",
		"twelveletter(":       "twelveletter (", "twelveletter 1": "twelveletter 1", "1000000000a": "1000000000 a", "0 0": "0 0", "0\n0": "0 0",
		"if%then\nif": "if if", "a%": "a", "a%\n1": "a 1",
	} {
		var got []string
		for _, x := range mustScan(t, src) {
			got = append(got, x.Text)
		}
		if s := strings.Join(got, " "); s != want {
			t.Errorf("%q: %q", src, s)
		}
	}
}

func TestScanOfNoTokens(t *testing.T) {
	for _, src := range []string{"", " ", "\t", "\n", " \t\n\t ", "%", "%!", "% x := 1", "%a\n%b\n", strings.Repeat(" ", 20000), strings.Repeat("\n", 20000), "%" + strings.Repeat("\xff", 19999)} {
		if l := mustScan(t, src); len(l) > 0 {
			t.Errorf("%.20q: %v", src, l)
		}
	}
}

func TestScanOfEachKind(t *testing.T) {
	for _, x := range sampleTokens() {
		for src, line := range map[string]int{x.Text: 1, " \t" + x.Text + "\t": 1, "\n\n" + x.Text + "\n": 3, "%" + x.Text + "\n" + x.Text + "%" + x.Text: 2} {
			want := api.Token{Kind: x.Kind, Text: x.Text, Line: line}
			if l := mustScan(t, src); len(l) != 1 || l[0] != want {
				t.Errorf("%q: %v", src, l)
			}
		}
	}
}

func TestEachByte(t *testing.T) {
	for b := range 256 {
		s := string([]byte{byte(b)})
		tokens, _, fault := plainScan(s)
		l, f := token.Scan(s)
		if f != fault || !slices.Equal(l, tokens) {
			t.Errorf("byte %d: %v, %v", b, l, f)
		}
		src := "%" + s
		c, f := token.Comments(src)
		want := strings.TrimSuffix(src, "\n")
		if f != (api.Fault{}) || !slices.Equal(c, []string{want}) {
			t.Errorf("byte %d in a comment: %q, %v", b, c, f)
		}
	}
}

func TestFaults(t *testing.T) {
	for src, want := range map[string]api.Fault{
		"x\n007": {Err: api.ErrNumber, At: 2}, "1000000001": {Err: api.ErrNumber, At: 1},
		"thirteenletter": {Err: api.ErrLong, At: 1}, "a!": {Err: api.ErrChar, At: 1},
		"00": {Err: api.ErrNumber, At: 1}, "01": {Err: api.ErrNumber, At: 1}, "0123456789": {Err: api.ErrNumber, At: 1},
		"9999999999": {Err: api.ErrNumber, At: 1}, "10000000000": {Err: api.ErrNumber, At: 1},
		"4294967297": {Err: api.ErrNumber, At: 1}, "18446744073709551617": {Err: api.ErrNumber, At: 1}, "36893488147419103233": {Err: api.ErrNumber, At: 1},
		"0000000000001": {Err: api.ErrNumber, At: 1}, strings.Repeat("1", 20000): {Err: api.ErrNumber, At: 1},
		"thirteenlette": {Err: api.ErrLong, At: 1}, "a123456789012": {Err: api.ErrLong, At: 1}, "x\n\nreturnsreturns": {Err: api.ErrLong, At: 3}, strings.Repeat("b", 20000): {Err: api.ErrLong, At: 1},
		"a\r\n": {Err: api.ErrChar, At: 1}, "a\n\v": {Err: api.ErrChar, At: 2}, "\f": {Err: api.ErrChar, At: 1}, "\xc2\xa0": {Err: api.ErrChar, At: 1},
		"a > b": {Err: api.ErrChar, At: 1}, "aB": {Err: api.ErrChar, At: 1}, "a\"": {Err: api.ErrChar, At: 1}, "\u00e9": {Err: api.ErrChar, At: 1},
		"007 !\nthirteenletter": {Err: api.ErrNumber, At: 1}, "! 007 thirteenletter": {Err: api.ErrChar, At: 1}, "thirteenletter!\n007": {Err: api.ErrLong, At: 1},
		"x % !\n% 007\n  !": {Err: api.ErrChar, At: 3}, strings.Repeat("\n", 19999) + "!": {Err: api.ErrChar, At: 20000},
		strings.Repeat(" ", 19999) + "!":                      {Err: api.ErrChar, At: 1},
		strings.Repeat(" ", 20001):                            {Err: api.ErrLimit},
		"!" + strings.Repeat(" ", 20000):                      {Err: api.ErrLimit},
		"%" + strings.Repeat("!", 20000):                      {Err: api.ErrLimit},
		strings.Repeat("x\n", 10000) + "\n":                   {Err: api.ErrLimit},
		"thirteenletter" + strings.Repeat("\n007 !", 1000000): {Err: api.ErrLimit},
	} {
		if l, f := token.Scan(src); f != want || len(l) > 0 {
			t.Errorf("Scan of %.30q: %d tokens, %v", src, len(l), f)
		}
		if c, f := token.Comments(src); f != want || len(c) > 0 {
			t.Errorf("Comments of %.30q: %d comments, %v", src, len(c), f)
		}
		if s, f := token.Tight(src); f != want || s != "" {
			t.Errorf("Tight of %.30q: %.30q, %v", src, s, f)
		}
	}
}

func TestNumbersOfErrors(t *testing.T) {
	for src, want := range map[string]api.Errno{strings.Repeat(" ", 20001): 2, "!": 10, "00": 11, "thirteenletter": 12, "0": 0} {
		if _, f := token.Scan(src); f.Err != want {
			t.Errorf("%.20q: %d", src, f.Err)
		}
	}
	if _, e := token.Apart(api.Token{}, api.Token{}); e != 1 {
		t.Errorf("Apart: %d", e)
	}
}

func TestFullTexts(t *testing.T) {
	l := mustScan(t, strings.Repeat("+", 20000))
	if len(l) != 20000 || l[0] != l[19999] || l[0] != (api.Token{Kind: api.TokSign, Text: "+", Line: 1}) {
		t.Errorf("%d tokens on a line", len(l))
	}
	l = mustScan(t, strings.Repeat("\n", 19999)+"x")
	if !slices.Equal(l, []api.Token{{Kind: api.TokName, Text: "x", Line: 20000}}) {
		t.Errorf("%v on the last line", l)
	}
}

func TestComments(t *testing.T) {
	for src, want := range map[string][]string{
		firstExample: {"% first"}, "": nil, "a\nb": nil, "%": {"%"}, "%\n": {"%"}, "%%": {"%%"}, "%a\n%b": {"%a", "%b"},
		"%one\nx %two%\n%": {"%one", "%two%", "%"}, "x%y% z \n z%\tw \n\n": {"%y% z ", "%\tw "}, "%b\n%a\n%b\n": {"%b", "%a", "%b"},
		"a%\r\nb": {"%\r"}, "% caf\u00e9 \xff\x00!": {"% caf\u00e9 \xff\x00!"},
		"%" + strings.Repeat("x", 19999): {"%" + strings.Repeat("x", 19999)},
	} {
		if c, f := token.Comments(src); f != (api.Fault{}) || !slices.Equal(c, want) {
			t.Errorf("%.30q: %.60q, %v", src, c, f)
		}
	}
}

func TestScanAgreesWithThePlainOne(t *testing.T) {
	read := 0
	for _, src := range sampleTexts(5000) {
		tokens, comments, fault := plainScan(src)
		l, f := token.Scan(src)
		if f != fault || !slices.Equal(l, tokens) {
			t.Fatalf("Scan of %q: %v, %v", src, l, f)
		}
		c, f := token.Comments(src)
		if f != fault || !slices.Equal(c, comments) {
			t.Fatalf("Comments of %q: %q, %v", src, c, f)
		}
		if f == (api.Fault{}) {
			read++
		}
	}
	if read < 2000 || read > 4900 {
		t.Errorf("%d of 5000 texts can be read: too one-sided", read)
	}
}

// P1.5, the first half.
func TestCommentsLeftOut(t *testing.T) {
	for _, src := range append(sampleTexts(2000), firstExample, "a%b", "1%\n2", "x%1\n%2\n%3\ny%") {
		lines := strings.Split(src, "\n")
		for i, s := range lines {
			lines[i], _, _ = strings.Cut(s, "%")
		}
		l, f := token.Scan(src)
		bare, fault := token.Scan(strings.Join(lines, "\n"))
		if f != fault || !slices.Equal(l, bare) {
			t.Fatalf("P1.5: %q: %v, without comments %v", src, l, bare)
		}
	}
}

// P1.5, the second half.
func TestTextBehindAnother(t *testing.T) {
	texts := append(sampleTexts(600), "", "\n", "%", "a", "% x\n\n")
	for i, src := range texts {
		front := texts[(i*7+3)%len(texts)] + "\n"
		lines := strings.Count(front, "\n")
		want, fault := token.Scan(front)
		if fault == (api.Fault{}) {
			var behind []api.Token
			behind, fault = token.Scan(src)
			for _, x := range behind {
				x.Line += lines
				want = append(want, x)
			}
			if fault != (api.Fault{}) {
				want, fault.At = nil, fault.At+lines
			}
		}
		if l, f := token.Scan(front + src); f != fault || !slices.Equal(l, want) {
			t.Fatalf("P1.5: %q behind %q: %v, %v", src, front, l, f)
		}
	}
}

func TestResultsAreNewMemory(t *testing.T) {
	first := mustScan(t, firstExample)
	want := slices.Clone(first)
	clear(first)
	if l := mustScan(t, firstExample); !slices.Equal(l, want) {
		t.Errorf("R3: Scan: %v", l)
	}
	c, _ := token.Comments(firstExample)
	clear(c)
	if c, _ := token.Comments(firstExample); !slices.Equal(c, []string{"% first"}) {
		t.Errorf("R3: Comments: %q", c)
	}
}

// R4: calls that run at once do not meet.
func TestCallsAtOnce(t *testing.T) {
	texts := sampleTexts(50)
	done := make(chan string)
	for range 8 {
		go func() {
			bad := ""
			for _, src := range texts {
				want, _, fault := plainScan(src)
				if l, f := token.Scan(src); f != fault || !slices.Equal(l, want) {
					bad = src
				}
			}
			done <- bad
		}()
	}
	for range 8 {
		if bad := <-done; bad != "" {
			t.Errorf("R4: %q", bad)
		}
	}
}
