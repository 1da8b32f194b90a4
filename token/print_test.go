package token_test

import (
	"slices"
	"strings"
	"testing"

	"argus/api"
	"argus/token"
)

// doOnOne and setOnThree are the list of the chapter's example.
var (
	doOnOne    = api.Token{Kind: api.TokWord, Text: "do", Line: 1}
	setOnThree = []api.Token{{Kind: api.TokName, Text: "x", Line: 3}, {Kind: api.TokSign, Text: ":=", Line: 3}}
)

// wrongTokens have Kinds or Texts that are not as said.
func wrongTokens() []api.Token {
	var l []api.Token
	add := func(kind uint8, texts ...string) {
		for _, s := range texts {
			l = append(l, api.Token{Kind: kind, Text: s, Line: 1})
		}
	}
	for kind := range uint8(5) {
		add(kind, "", " ", "\n", "%", "%x", "!", "a ", " a", "a%", "1 ", "+ ", "+%", "if ", "a b", "a+", "1a", "if%x", "if\n", "\nif", "A", "\xff", "thirteenletter", "00", "1000000001", "==", "++", ": =", "-1", ">", strings.Repeat("a", 20001), strings.Repeat("1", 20001), strings.Repeat("+", 100000))
	}
	for _, x := range sampleTokens() {
		for _, kind := range []uint8{0, 1, 2, 3, 4, 5, 6, 255} {
			if kind != x.Kind {
				add(kind, x.Text)
			}
		}
	}
	return l
}

func TestCheckOfSingleTokens(t *testing.T) {
	for _, x := range sampleTokens() {
		for _, line := range []int{1, 2, 19999, 20000} {
			x.Line = line
			if at, e := token.Check([]api.Token{x}); at != 0 || e != api.OK {
				t.Errorf("%v: %d, %d", x, at, e)
			}
		}
		for _, line := range []int{-1 << 63, -20000, -1, 0, 20001, 1<<63 - 1} {
			x.Line = line
			for at := range 3 {
				l := []api.Token{doOnOne, doOnOne, doOnOne, x}
				l[at] = x
				if got, e := token.Check(l); got != at || e != api.ErrArg {
					t.Errorf("%v at %d: %d, %d", x, at, got, e)
				}
			}
		}
	}
	for _, x := range wrongTokens() {
		if at, e := token.Check([]api.Token{doOnOne, doOnOne, x, {}}); at != 2 || e != api.ErrArg {
			t.Errorf("kind %d, %.20q: %d, %d", x.Kind, x.Text, at, e)
		}
		if s, e := token.Print([]api.Token{doOnOne, x}); s != "" || e != api.ErrArg {
			t.Errorf("kind %d, %.20q: %q, %d", x.Kind, x.Text, s, e)
		}
	}
}

func TestCheckOfLists(t *testing.T) {
	x := func(line int) api.Token { return api.Token{Kind: api.TokName, Text: "x", Line: line} }
	full := slices.Repeat([]api.Token{x(1)}, 20000)
	late := slices.Clone(full)
	late[19999].Line = 0
	for name, c := range map[string]struct {
		l  []api.Token
		at int
		e  api.Errno
	}{
		"none":                    {nil, 0, api.OK},
		"empty":                   {[]api.Token{}, 0, api.OK},
		"equal lines":             {[]api.Token{x(4), x(4), x(5)}, 0, api.OK},
		"first and last line":     {[]api.Token{x(1), x(20000)}, 0, api.OK},
		"descends":                {[]api.Token{x(1), x(5), x(4), x(3)}, 2, api.ErrArg},
		"descends from the first": {[]api.Token{x(2), x(1)}, 1, api.ErrArg},
		"first is wrong":          {[]api.Token{{}, x(2), x(1)}, 0, api.ErrArg},
		"full":                    {full, 0, api.OK},
		"last of a full one":      {late, 19999, api.ErrArg},
		"one too many":            {append(slices.Clone(full), x(1)), 20000, api.ErrLimit},
		"a wrong one too many":    {append(slices.Clone(full), api.Token{}), 20000, api.ErrLimit},
		"many too many":           {append(slices.Clone(full), full...), 20000, api.ErrLimit},
		"wrong before too many":   {append(slices.Clone(late), x(1)), 19999, api.ErrArg},
	} {
		if at, e := token.Check(c.l); at != c.at || e != c.e {
			t.Errorf("%s: %d, %d", name, at, e)
		}
		if _, e := token.Print(c.l); c.e != api.OK && e != c.e {
			t.Errorf("%s: Print: %d", name, e)
		}
	}
}

func TestListsStayAsTheyWere(t *testing.T) {
	l := append([]api.Token{doOnOne}, setOnThree...)
	before := slices.Clone(l)
	token.Check(l)
	token.Print(l)
	if !slices.Equal(l, before) {
		t.Errorf("R3: %v", l)
	}
}

// needsBlank tells by a rule of its own whether two tokens run into one another.
func needsBlank(a, b api.Token) bool {
	first := b.Text[0]
	digit := '0' <= first && first <= '9'
	letter := 'a' <= first && first <= 'z'
	switch a.Kind {
	case api.TokName, api.TokWord:
		return letter || digit
	case api.TokNumber:
		return digit
	}
	return (a.Text == ":" || a.Text == "<") && b.Text == "="
}

// P1.4 for all pairs of words, signs and some names and numbers.
func TestApart(t *testing.T) {
	for _, a := range sampleTokens() {
		for _, b := range sampleTokens() {
			is, e := token.Apart(a, b)
			if e != api.OK || is != needsBlank(a, b) {
				t.Fatalf("%q, %q: %v, %d", a.Text, b.Text, is, e)
			}
			l, f := token.Scan(a.Text + b.Text)
			if together := f == (api.Fault{}) && slices.Equal(l, []api.Token{a, b}); together == is {
				t.Fatalf("P1.4: %q is read as %v", a.Text+b.Text, l)
			}
			if l := mustScan(t, a.Text+" "+b.Text); !slices.Equal(l, []api.Token{a, b}) {
				t.Fatalf("P1.4: %q is read as %v", a.Text+" "+b.Text, l)
			}
		}
	}
}

func TestApartOfExamples(t *testing.T) {
	tok := func(s string) api.Token { return mustScan(t, s)[0] }
	for pair, want := range map[[2]string]bool{{"<", "="}: true, {":", "="}: true, {"=", "="}: false, {"a", "1"}: true, {"1", "a"}: false, {"do", "x"}: true, {")", "a"}: false, {":", ":="}: false, {"<", "<="}: false, {":=", "="}: false, {"<=", "="}: false, {"0", "0"}: true} {
		if is, e := token.Apart(tok(pair[0]), tok(pair[1])); is != want || e != api.OK {
			t.Errorf("%q: %v, %d", pair, is, e)
		}
	}
}

func TestApartDoesNotAskLines(t *testing.T) {
	for _, line := range []int{-5, 0, 2, 20001} {
		a := api.Token{Kind: api.TokName, Text: "a", Line: line}
		b := api.Token{Kind: api.TokWord, Text: "if", Line: 7 - line}
		c := api.Token{Kind: api.TokSign, Text: "(", Line: 2 * line}
		if is, e := token.Apart(a, b); !is || e != api.OK {
			t.Errorf("line %d: %v, %d", line, is, e)
		}
		if is, e := token.Apart(b, c); is || e != api.OK {
			t.Errorf("line %d: %v, %d", line, is, e)
		}
	}
}

func TestApartOfWrongTokens(t *testing.T) {
	for _, x := range wrongTokens() {
		for _, pair := range [][2]api.Token{{doOnOne, x}, {x, doOnOne}, {x, x}} {
			if is, e := token.Apart(pair[0], pair[1]); is || e != api.ErrArg {
				t.Errorf("kind %d, %.20q: %v, %d", x.Kind, x.Text, is, e)
			}
		}
	}
}

func TestPrint(t *testing.T) {
	x := func(kind uint8, text string, line int) api.Token {
		return api.Token{Kind: kind, Text: text, Line: line}
	}
	for want, l := range map[string][]api.Token{
		"":             {},
		"do\n\nx :=\n": {doOnOne, setOnThree[0], setOnThree[1]},
		"x\n":          {x(1, "x", 1)},
		"\n\n\n1\n":    {x(3, "1", 4)},
		"( )\n+ +\n":   {x(4, "(", 1), x(4, ")", 1), x(4, "+", 2), x(4, "+", 2)},
		"12 a 0 : =\n": {x(3, "12", 1), x(1, "a", 1), x(3, "0", 1), x(4, ":", 1), x(4, "=", 1)},
	} {
		if s, e := token.Print(l); s != want || e != api.OK {
			t.Errorf("%v: %q, %d", l, s, e)
		}
	}
	if s, e := token.Print(nil); s != "" || e != api.OK {
		t.Errorf("no tokens: %q, %d", s, e)
	}
}

func TestPrintOfLongTexts(t *testing.T) {
	x := api.Token{Kind: api.TokName, Text: "x", Line: 1}
	at := func(line int) api.Token { return api.Token{Kind: api.TokName, Text: "x", Line: line} }
	two := api.Token{Kind: api.TokName, Text: "xy", Line: 1}
	many := slices.Repeat([]api.Token{x}, 9999)
	for name, c := range map[string]struct {
		l     []api.Token
		bytes int
	}{
		"just fits":         {append(slices.Clone(many), x), 20000},
		"a byte too many":   {append(slices.Clone(many), two), 0},
		"a token too many":  {append(slices.Clone(many), x, x), 0},
		"the last line":     {[]api.Token{at(20000)}, 0},
		"the one before it": {[]api.Token{at(19999)}, 20000},
		"one more token":    {[]api.Token{at(19998), at(19999)}, 0},
		"room for one more": {[]api.Token{at(19997), at(19998)}, 20000},
	} {
		s, e := token.Print(c.l)
		if len(s) != c.bytes || (e == api.OK) != (c.bytes > 0) || (e != api.OK && e != api.ErrLimit) {
			t.Errorf("%s: %d bytes, %d", name, len(s), e)
		}
		if e == api.OK && !slices.Equal(mustScan(t, s), c.l) {
			t.Errorf("P1.2: %s: read otherwise", name)
		}
	}
}

// P1.2 (T1).
func TestThereAndBack(t *testing.T) {
	for _, src := range sampleTexts(3000) {
		l, f := token.Scan(src)
		if f != (api.Fault{}) {
			continue
		}
		if at, e := token.Check(l); at != 0 || e != api.OK {
			t.Fatalf("Check of Scan of %q: %d, %d", src, at, e)
		}
		s, e := token.Print(l)
		if e != api.OK {
			t.Fatalf("P1.2: Print of Scan of %q: %d", src, e)
		}
		back := mustScan(t, s)
		if !slices.Equal(back, l) {
			t.Fatalf("P1.2: %q is read as %v", s, back)
		}
		if again, e := token.Print(back); again != s || e != api.OK {
			t.Fatalf("P1.2: %q is printed as %q, %d", s, again, e)
		}
		if len(l) > 0 && plainPrint(l) != s || len(l) == 0 && s != "" {
			t.Fatalf("Print of %v: %q", l, s)
		}
	}
}

// plainPrint is a second way to do what Print is to do.
func plainPrint(l []api.Token) string {
	lines := make([]string, l[len(l)-1].Line)
	for _, x := range l {
		lines[x.Line-1] = strings.TrimPrefix(lines[x.Line-1]+" "+x.Text, " ")
	}
	return strings.Join(lines, "\n") + "\n"
}

func TestTight(t *testing.T) {
	for src, want := range map[string]string{
		firstExample: "x:=a[12]end", "": "", " \n\t% nothing": "", "a < = b": "a< =b", "a\n:\n=\nb": "a: =b", "a <\t=b": "a< =b",
		"if a then 1 2": "if a then 1 2", "if\na\nthen\n1\n\n2\n": "if a then 1 2", "12 a": "12a", "a 12": "a 12", "a12": "a12", "1 % x\n 2": "1 2",
		": := < <= = =": "::=<<===", "< : = : =": "<: =: =", "x _ y": "x_y", "not ( a )": "not(a)", "return x": "return x", "1 if 2 b": "1if 2b",
		strings.Repeat(" ", 20000): "", strings.Repeat("x ", 10000): strings.Repeat("x ", 9999) + "x", strings.Repeat("+", 20000): strings.Repeat("+", 20000),
	} {
		if s, f := token.Tight(src); s != want || f != (api.Fault{}) {
			t.Errorf("%.20q: %.40q, %v", src, s, f)
		}
	}
}

// P1.3 but for "no text is shorter".
func TestTightHasTheSameTokens(t *testing.T) {
	for _, src := range sampleTexts(3000) {
		l, fault := token.Scan(src)
		s, f := token.Tight(src)
		if f != fault || len(s) > len(src) || strings.ContainsAny(s, "\n\t%") {
			t.Fatalf("P1.3: %q: %q, %v", src, s, f)
		}
		if f != (api.Fault{}) {
			continue
		}
		back := mustScan(t, s)
		if !slices.Equal(unlined(back), unlined(l)) || len(back) > 0 && back[len(back)-1].Line != 1 {
			t.Fatalf("P1.3: %q is read as %v", s, back)
		}
		if again, f := token.Tight(s); again != s || f != (api.Fault{}) {
			t.Fatalf("P1.3: Tight of %q: %q", s, again)
		}
	}
}

// P1.3, "no text is shorter", among all texts of at most 6 of some bytes.
func TestTightIsShortest(t *testing.T) {
	texts := []string{""}
	least := map[string]int{}
	tokensOf := map[string]string{}
	for i := 0; i < len(texts); i++ {
		src := texts[i]
		if len(src) < 6 {
			for _, b := range "a1:=< \n" {
				texts = append(texts, src+string(b))
			}
		}
		l, f := token.Scan(src)
		if f != (api.Fault{}) {
			continue
		}
		var key strings.Builder
		for _, x := range l {
			key.WriteString(x.Text + "|")
		}
		tokensOf[src] = key.String()
		if n, ok := least[key.String()]; !ok || len(src) < n {
			least[key.String()] = len(src)
		}
	}
	for src, key := range tokensOf {
		if s, f := token.Tight(src); len(s) != least[key] || f != (api.Fault{}) {
			t.Fatalf("P1.3: %q: %q has not %d bytes", src, s, least[key])
		}
	}
}
