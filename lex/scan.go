package lex

import (
	"iter"
	"strings"

	"lyceum/api"
	"lyceum/syntax"
)

// signs are the signs, each one ahead of those that it begins with, so that the first one that stands somewhere is the longest one.
var signs = [...]string{"<->", "->", "[]", "<>", "(", ")", ",", "~", "&", "|", "/", "[", "]"}

// start tells the token that a text begins with, but for its place, or the error if there is none.
type start func(text string) (Token, api.Errno)

// place is how many bytes are ahead.
type place struct{ at int }

// scanner goes through a text; starts has what begins with each byte.
type scanner struct {
	place
	text   string
	starts [256]start
}

// tokens yields the tokens of a text, the end as the last one; an error ends them, with a token that has its place alone.
func tokens(text string) iter.Seq2[Token, api.Errno] {
	return func(yield func(Token, api.Errno) bool) {
		s := scanner{text: text, starts: starts()}
		for more := true; more; {
			t, e := s.next()
			more = yield(t, e) && e == api.OK && t.Kind != TokEnd
		}
	}
}

// next returns the next token, and goes behind it.
func (s *scanner) next() (Token, api.Errno) {
	for s.at < len(s.text) && isBlank(s.text[s.at]) {
		s.at++
	}
	if s.at == len(s.text) {
		return Token{Kind: TokEnd, At: s.at}, api.OK
	}
	rest := s.text[s.at:]
	t, e := s.starts[rest[0]](rest)
	t.At = s.at
	s.at += len(t.Text)
	return t, e
}

// starts returns what begins with each byte. What is neither a letter nor a question mark may be a sign: sign finds out whether it is.
func starts() [256]start {
	var l [256]start
	run, mark := spelled(runKind), spelled(markKind)
	for c := range l {
		switch {
		case isLetter(byte(c)):
			l[c] = run
		case c == '?':
			l[c] = mark
		default:
			l[c] = sign
		}
	}
	return l
}

// spelled returns a closure that takes the first byte with all letters and digits directly behind it; kind tells the kind of what they spell, 0 if it is no name.
func spelled(kind func(s string) uint8) start {
	return func(text string) (Token, api.Errno) {
		n := 1
		for n < len(text) && (isLetter(text[n]) || isDigit(text[n])) {
			n++
		}
		if k := kind(text[:n]); k != 0 {
			return Token{Kind: k, Text: text[:n]}, api.OK
		}
		return Token{}, ErrName
	}
}

// sign takes a sign.
func sign(text string) (Token, api.Errno) {
	for _, s := range signs {
		if strings.HasPrefix(text, s) {
			return Token{Kind: TokSign, Text: s}, api.OK
		}
	}
	return Token{}, ErrChar
}

// runKind is the kind of a run.
func runKind(s string) uint8 {
	switch {
	case Word(s):
		return TokWord
	case syntax.Variable(s), syntax.Function(s), syntax.Predicate(s):
		return TokName
	}
	return 0
}

// markKind is the kind of a mark.
func markKind(s string) uint8 {
	if syntax.Meta(s) {
		return TokMeta
	}
	return 0
}

func isBlank(c byte) bool { return c == ' ' || c == '\t' || c == '\n' || c == '\r' }

func isLetter(c byte) bool { return c >= 'a' && c <= 'z' || c >= 'A' && c <= 'Z' }

func isDigit(c byte) bool { return c >= '0' && c <= '9' }
