package tree_test

import (
	"math/rand/v2"
	"regexp"
	"slices"
	"strings"
	"testing"

	"argus/api"
	"argus/token"
)

// chapterGrammar is the grammar of the chapter; what is said of `returns` and `yields` below it stands in it too.
const chapterGrammar = `
source = { module }
module = "proc" NAME [ "[" "t" "]" ] prochead where "is" block "end"
	| "iter" NAME [ "[" "t" "]" ] iterhead where "is" block "end"
	| "cluster" NAME [ "[" "t" "]" ] "is" NAME { "," NAME } where "rep" "=" type routine { routine } "end"
routine = "proc" NAME prochead "is" block "end" | "iter" NAME iterhead "is" block "end"
prochead = "(" [ NAME ":" type { "," NAME ":" type } ] ")" [ "returns" type ] [ "signals" "(" NAME { "," NAME } ")" ]
iterhead = "(" [ NAME ":" type { "," NAME ":" type } ] ")" "yields" type [ "signals" "(" NAME { "," NAME } ")" ]
where = [ "where" "t" "has" need { "," need } ]
need = NAME ":" "proc" "(" [ type { "," type } ] ")" [ "returns" type ] [ "signals" "(" NAME { "," NAME } ")" ]
	| NAME ":" "iter" "(" [ type { "," type } ] ")" "yields" type [ "signals" "(" NAME { "," NAME } ")" ]
block = [ statement { ";" statement } ]
statement = "var" NAME ":" type ":=" expr | NAME ":=" expr | primary "[" expr "]" ":=" expr | primary "." NAME ":=" expr | call
	| "put" expr | "if" expr "then" block { "elseif" expr "then" block } [ "else" block ] "end" | "while" expr "do" block "end"
	| "for" NAME ":" type "in" call "do" block "end" | "return" [ expr ] | "yield" expr | "signal" NAME | "break"
	| "begin" block "except" ( when { when } [ others ] | others ) "end"
	| "tagcase" expr arm { arm } "end"
when = "when" NAME ":" block
others = "when" "others" ":" block
arm = "tag" NAME "(" NAME ":" type ")" ":" block
expr = "not" primary | primary [ ( "+" | "-" | "*" | "/" | "mod" | "<" | "<=" | "=" | "and" | "or" ) primary ]
primary = NUMBER | "true" | "false" | "nil" | NAME | call | primary "[" expr "]" | primary "." NAME
	| ( "up" | "down" ) "(" expr ")" | "(" expr ")"
call = NAME [ "{" type "}" ] "(" args ")" | type "$" ( NAME [ "_" NAME ] | "mod" | "and" | "or" | "not" ) "(" args ")"
args = [ expr { "," expr } ]
type = "int" | "bool" | "null" | "array" "[" type "]" | "record" "[" fields "]" | "oneof" "[" fields "]"
	| NAME | NAME "[" type "]" | "?" "t"
fields = NAME ":" type { "," NAME ":" type }
`

// grammar has, for each symbol that is none of tokens, its alternatives, each a row of symbols. Symbols of tokens are in quotes, or NAME and NUMBER.
type grammar struct {
	rules    map[string][][]string
	shortest map[string][]string
}

func newGrammar(text string) *grammar {
	g := &grammar{rules: map[string][][]string{}}
	text = strings.ReplaceAll(text, "\n\t", " ")
	for line := range strings.Lines(strings.TrimSpace(text)) {
		name, rest, _ := strings.Cut(line, " = ")
		words := regexp.MustCompile(`"[^"]*"|\S+`).FindAllString(rest, -1)
		if left := g.alternatives(name, words); len(left) > 0 {
			panic("grammar: " + line)
		}
	}
	g.findShortest()
	return g
}

// alternatives adds those of a symbol, and returns the words behind them.
func (g *grammar) alternatives(name string, words []string) []string {
	row := []string{}
	for len(words) > 0 {
		first, rest := words[0], words[1:]
		words = rest
		inner := name + "'" + string(rune('0'+len(words)))
		switch first {
		case "|":
			g.rules[name] = append(g.rules[name], row)
			row = []string{}
		case "(", "[", "{":
			words = g.alternatives(inner, rest)
			switch first {
			case "[":
				g.rules[inner] = append(g.rules[inner], nil)
			case "{":
				for i := range g.rules[inner] {
					g.rules[inner][i] = append(g.rules[inner][i], inner)
				}
				g.rules[inner] = append(g.rules[inner], nil)
			}
			row = append(row, inner)
		case ")", "]", "}":
			g.rules[name] = append(g.rules[name], row)
			return words
		default:
			row = append(row, first)
		}
	}
	g.rules[name] = append(g.rules[name], row)
	return nil
}

// findShortest finds a shortest row of tokens for each symbol.
func (g *grammar) findShortest() {
	g.shortest = map[string][]string{}
	for changed := true; changed; {
		changed = false
		for name, rows := range g.rules {
			for _, row := range rows {
				l, ok := g.tokensOf(row)
				if old, had := g.shortest[name]; ok && (!had || len(l) < len(old)) {
					g.shortest[name] = l
					changed = true
				}
			}
		}
	}
}

func (g *grammar) isToken(symbol string) bool { return g.rules[symbol] == nil }

func textOf(symbol string) string {
	switch symbol {
	case "NAME":
		return "x"
	case "NUMBER":
		return "7"
	}
	return strings.Trim(symbol, `"`)
}

// tokensOf returns the texts of a shortest row of tokens of some symbols.
func (g *grammar) tokensOf(row []string) ([]string, bool) {
	l := []string{}
	for _, symbol := range row {
		if g.isToken(symbol) {
			l = append(l, textOf(symbol))
			continue
		}
		inner, ok := g.shortest[symbol]
		if !ok {
			return nil, false
		}
		l = append(l, inner...)
	}
	return l, true
}

func fits(symbol string, t api.Token) bool {
	switch symbol {
	case "NAME":
		return t.Kind == api.TokName
	case "NUMBER":
		return t.Kind == api.TokNumber
	}
	return symbol == `"`+t.Text+`"`
}

// item is a rule that has been read up to a dot, from a token on.
type item struct {
	name           string
	row, dot, from int
}

// reading is all items that are possible ahead of each token (Earley's way).
type reading struct {
	g    *grammar
	sets [][]item
}

func (r *reading) next(x item) string {
	row := r.g.rules[x.name][x.row]
	if x.dot == len(row) {
		return ""
	}
	return row[x.dot]
}

// close adds to the last set what follows from it without a token.
func (r *reading) close() {
	at := len(r.sets) - 1
	met := map[item]bool{}
	var set []item
	add := func(x item) {
		if !met[x] {
			met[x] = true
			set = append(set, x)
		}
	}
	for _, x := range r.sets[at] {
		add(x)
	}
	for i := 0; i < len(set); i++ {
		x := set[i]
		symbol := r.next(x)
		switch {
		case symbol == "":
			parents := set
			if x.from < at {
				parents = r.sets[x.from]
			}
			for _, y := range parents {
				if r.next(y) == x.name {
					add(item{y.name, y.row, y.dot + 1, y.from})
				}
			}
		case !r.g.isToken(symbol):
			for row := range r.g.rules[symbol] {
				add(item{symbol, row, 0, at})
			}
			// What is empty may have been read already.
			if len(r.g.shortest[symbol]) == 0 {
				add(item{x.name, x.row, x.dot + 1, x.from})
			}
		}
	}
	r.sets[at] = set
}

// read returns the sets up to the first token that cannot be there, and whether the start is read with the last one.
func (g *grammar) read(start string, tokens []api.Token) (r *reading, done bool) {
	r = &reading{g: g, sets: [][]item{nil}}
	for row := range g.rules[start] {
		r.sets[0] = append(r.sets[0], item{start, row, 0, 0})
	}
	r.close()
	for _, t := range tokens {
		var set []item
		for _, x := range r.sets[len(r.sets)-1] {
			if symbol := r.next(x); symbol != "" && g.isToken(symbol) && fits(symbol, t) {
				set = append(set, item{x.name, x.row, x.dot + 1, x.from})
			}
		}
		if len(set) == 0 {
			return r, false
		}
		r.sets = append(r.sets, set)
		r.close()
	}
	for _, x := range r.sets[len(r.sets)-1] {
		done = done || x.name == start && x.from == 0 && r.next(x) == ""
	}
	return r, done
}

// fault returns what Parse and ParseExpr have to say of tokens, as far as the grammar goes.
func (g *grammar) fault(start string, tokens []api.Token) api.Fault {
	r, done := g.read(start, tokens)
	read := len(r.sets) - 1
	switch {
	case done:
		return api.Fault{}
	case read < len(tokens):
		return api.Fault{Err: api.ErrParse, At: tokens[read].Line}
	case read > 0:
		return api.Fault{Err: api.ErrParse, At: tokens[read-1].Line}
	}
	return api.Fault{Err: api.ErrParse, At: 1}
}

// rest returns tokens that may follow behind what has been read, so that it becomes the start.
func (r *reading) rest(start string) []string {
	met := map[item]bool{}
	var find func(x item, at int) ([]string, bool)
	find = func(x item, at int) ([]string, bool) {
		if met[x] {
			return nil, false
		}
		met[x] = true
		l, _ := r.g.tokensOf(r.g.rules[x.name][x.row][x.dot:])
		if x.name == start && x.from == 0 {
			return l, true
		}
		for _, y := range r.sets[x.from] {
			if r.next(y) == x.name {
				if behind, ok := find(item{y.name, y.row, y.dot + 1, y.from}, x.from); ok {
					return append(l, behind...), true
				}
			}
		}
		return nil, false
	}
	for _, x := range r.sets[len(r.sets)-1] {
		if l, ok := find(x, len(r.sets)-1); ok {
			return l
		}
	}
	panic("nothing may follow")
}

// sentence returns the texts of tokens that a symbol can be; when they become many, it takes short ways.
func (g *grammar) sentence(r *rand.Rand, symbol string) []string {
	var l []string
	left := 20 + r.IntN(300)
	var walk func(symbol string)
	walk = func(symbol string) {
		left--
		switch rows := g.rules[symbol]; {
		case rows == nil && symbol == "NAME":
			l = append(l, []string{"a", "b", "t", "u", "twelveletter"}[r.IntN(5)])
		case rows == nil && symbol == "NUMBER":
			l = append(l, []string{"0", "7", "1000000000"}[r.IntN(3)])
		case rows == nil:
			l = append(l, textOf(symbol))
		case left < 0:
			l = append(l, g.shortest[symbol]...)
		default:
			for _, s := range rows[r.IntN(len(rows))] {
				walk(s)
			}
		}
	}
	walk(symbol)
	return l
}

// walk returns the texts of tokens that can stand at the front of a symbol, each taken from all that can follow.
func (g *grammar) walk(random *rand.Rand, start string, most int) []string {
	var l []string
	var tokens []api.Token
	for range most {
		r, _ := g.read(start, tokens)
		var may []string
		for _, x := range r.sets[len(tokens)] {
			if symbol := r.next(x); symbol != "" && g.isToken(symbol) && !slices.Contains(may, textOf(symbol)) {
				may = append(may, textOf(symbol))
			}
		}
		if len(may) == 0 {
			return l
		}
		l = append(l, may[random.IntN(len(may))])
		tokens, _ = token.Scan(strings.Join(l, " "))
	}
	return l
}

// spoil changes one of some texts of tokens, or leaves out all from one on.
func spoil(r *rand.Rand, l []string) []string {
	all := append(token.Words(), token.Signs()...)
	all = append(all, "x", "t", "5")
	l = slices.Clone(l)
	if len(l) == 0 {
		return []string{all[r.IntN(len(all))]}
	}
	i, s := r.IntN(len(l)), all[r.IntN(len(all))]
	switch r.IntN(6) {
	case 0:
		return slices.Delete(l, i, i+1)
	case 1:
		return slices.Insert(l, i, s)
	case 2:
		j := r.IntN(len(l))
		l[i], l[j] = l[j], l[i]
		return l
	case 3:
		return l[:i]
	case 4:
		return append(l[:i], l[r.IntN(i+1):]...)
	}
	l[i] = s
	return l
}

// The grammar itself is asked here, so that its reader can be relied on.
func TestGrammarOfTheTests(t *testing.T) {
	g := newGrammar(chapterGrammar)
	for src, want := range map[string]api.Fault{
		"": {}, "proc p() is end": {}, "proc p() is x := 1 end": {}, "proc p() is\nx :=\nend": {Err: api.ErrParse, At: 3},
		"proc p()\nis": {Err: api.ErrParse, At: 2}, "proc p() is x := a[int]\n; put 1 end": {Err: api.ErrParse, At: 2}, "iter p()\nis end": {Err: api.ErrParse, At: 2},
	} {
		tokens, _ := token.Scan(src)
		if f := g.fault("source", tokens); f != want {
			t.Errorf("%q: %v", src, f)
		}
	}
	tokens, _ := token.Scan("proc p() is if a[b(")
	r, _ := g.read("source", tokens)
	if s := strings.Join(r.rest("source"), " "); s != ") ] then end end" {
		t.Errorf("the rest: %q", s)
	}
	random := rand.New(rand.NewPCG(3, 4))
	for range 100 {
		tokens, f := token.Scan(strings.Join(g.sentence(random, "source"), " "))
		if _, done := g.read("source", tokens); !done || f != (api.Fault{}) {
			t.Fatalf("a sentence that is none: %v, %v", tokens, f)
		}
	}
}
