package token

import (
	"strconv"

	"argus/api"
)

// Scan returns the tokens of a text.
func Scan(src string) ([]api.Token, api.Fault) {
	tokens, _, f := newLexicon().read(src)
	return tokens, f
}

// Comments returns the comments of a text in order, each with its percent sign.
func Comments(src string) ([]string, api.Fault) {
	_, comments, f := newLexicon().read(src)
	return comments, f
}

// read returns the tokens and the comments of a text, or its fault alone.
func (x lexicon) read(src string) (tokens []api.Token, comments []string, f api.Fault) {
	if len(src) > api.MaxSource {
		return nil, nil, api.Fault{Err: api.ErrLimit}
	}
	defer func() {
		if fault, ok := recover().(api.Fault); ok {
			tokens, comments, f = nil, nil, fault
		}
	}()
	s := &scanner{text: text{src: src, line: 1}, words: x}
	for t := range s.tokens {
		tokens = append(tokens, t)
	}
	return tokens, s.comments, api.Fault{}
}

// text is a place in a text: how far it has been read, and the line there.
type text struct {
	src      string
	at, line int
}

func (t *text) more() bool { return t.at < len(t.src) }

func (t *text) peek() byte { return t.src[t.at] }

func (t *text) step() {
	if t.peek() == '\n' {
		t.line++
	}
	t.at++
}

// run steps over bytes as far as they fit, and returns them.
func (t *text) run(fits func(byte) bool) string {
	from := t.at
	for t.more() && fits(t.peek()) {
		t.step()
	}
	return t.src[from:t.at]
}

// scanner reads a text piece by piece; comments are what it has met of them.
type scanner struct {
	text
	words    lexicon
	comments []string
}

// Kinds of bytes, by what can begin with them.
const (
	otherByte = iota
	gapByte
	percentByte
	letterByte
	digitByte
	signByte
)

// kind returns the kind of the next byte.
func (s *scanner) kind() int {
	b := s.peek()
	switch {
	case b == ' ' || b == '\t' || b == '\n':
		return gapByte
	case b == '%':
		return percentByte
	case isLetter(b):
		return letterByte
	case isDigit(b):
		return digitByte
	case isSign(s.src[s.at : s.at+1]):
		return signByte
	}
	return otherByte
}

// noToken is the kind of what separates tokens.
const noToken uint8 = 0

// tokens yields the tokens of the text; it panics with the fault of one that cannot be.
func (s *scanner) tokens(yield func(api.Token) bool) {
	pieces := [...]func(*scanner) uint8{
		otherByte:   (*scanner).refuse,
		gapByte:     (*scanner).gap,
		percentByte: (*scanner).comment,
		letterByte:  (*scanner).name,
		digitByte:   (*scanner).number,
		signByte:    (*scanner).sign,
	}
	for s.more() {
		from, line := s.at, s.line
		piece := pieces[s.kind()]
		kind := piece(s)
		if kind == noToken {
			continue
		}
		if !yield(api.Token{Kind: kind, Text: s.src[from:s.at], Line: line}) {
			return
		}
	}
}

func (s *scanner) giveUp(e api.Errno) {
	panic(api.Fault{Err: e, At: s.line})
}

func (s *scanner) refuse() uint8 {
	s.giveUp(api.ErrChar)
	return noToken
}

func (s *scanner) gap() uint8 {
	s.step()
	return noToken
}

// comment leaves the line feed behind it to be counted as a gap.
func (s *scanner) comment() uint8 {
	from := s.at
leave:
	for s.more() {
		switch s.peek() {
		case '\n':
			break leave
		default:
			s.step()
		}
	}
	s.comments = append(s.comments, s.src[from:s.at])
	return noToken
}

func (s *scanner) name() uint8 {
	name := s.run(isLetterOrDigit)
	if len(name) > api.MaxName {
		s.giveUp(api.ErrLong)
	}
	if s.words[name] {
		return api.TokWord
	}
	return api.TokName
}

func (s *scanner) number() uint8 {
	if !isNumber(s.run(isDigit)) {
		s.giveUp(api.ErrNumber)
	}
	return api.TokNumber
}

// isNumber reports whether digits are a number in canonical form that is not too large.
func isNumber(digits string) bool {
	n, err := strconv.Atoi(digits)
	return err == nil && n <= api.MaxInt && strconv.Itoa(n) == digits
}

// sign takes the longest sign: each one without its last byte is a sign too.
func (s *scanner) sign() uint8 {
	from := s.at
	s.step()
	for s.more() && isSign(s.src[from:s.at+1]) {
		s.step()
	}
	return api.TokSign
}
