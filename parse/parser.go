package parse

import (
	"lyceum/api"
	"lyceum/lex"
)

// parser goes through the tokens of a text; it stands at one of them, within so many nests.
type parser struct {
	tokens    []lex.Token
	at, nests int
	metas     bool // whether metavariables may stand anywhere
	unaries   map[string]uint8
}

// wrong is the place and the error of a token that ends a parser by a panic.
type wrong struct {
	at int
	e  api.Errno
}

// read returns what a whole text is by a rule of the grammar, or the place of an error.
func read[T any](s string, metas bool, rule func(p *parser) T) (found T, at int, e api.Errno) {
	tokens, at, e := lex.Lex(s)
	if e != api.OK {
		return found, at, e
	}
	defer func() {
		if w, ok := recover().(wrong); ok {
			at, e = w.at, w.e
		}
	}()
	p := &parser{tokens: tokens, metas: metas, unaries: unaries()}
	whole := rule(p)
	if p.token().Kind != lex.TokEnd {
		panic(p.wrong(ErrSyntax))
	}
	return whole, 0, api.OK
}

// token is the token at which the parser stands. There is always one, as the end is never taken.
func (p *parser) token() lex.Token { return p.tokens[p.at] }

// wrong is the token at which the parser stands, as one with an error.
func (p *parser) wrong(e api.Errno) wrong { return wrong{p.token().At, e} }

// begin is called where a unary or a term should begin.
func (p *parser) begin() {
	if p.nests > MaxNest {
		panic(p.wrong(ErrDeep))
	}
}

// take reports whether the token is a sign or a word, and goes behind it then. Its Text tells, as no token of another kind has the same.
func (p *parser) take(text string) bool {
	if p.token().Text != text {
		return false
	}
	p.at++
	return true
}

// need goes behind a sign that must stand there.
func (p *parser) need(text string) {
	if !p.take(text) {
		panic(p.wrong(ErrSyntax))
	}
}

// name goes behind a name that must stand there.
func (p *parser) name(is func(s string) bool) string {
	text := p.token().Text
	if !is(text) {
		panic(p.wrong(ErrSyntax))
	}
	p.at++
	return text
}

// isMeta reports whether the token is a metavariable that may stand there, and is called as one of formulas or as one of terms.
func (p *parser) isMeta(called func(s string) bool) bool {
	t := p.token()
	return p.metas && t.Kind == lex.TokMeta && called(t.Text[1:])
}

// nested reads by a rule, within one nest more.
func nested[T any](p *parser, rule func() T) T {
	p.nests++
	x := rule()
	p.nests--
	return x
}

// inBrackets reads by a rule what stands behind a round bracket, and the bracket that closes it.
func inBrackets[T any](p *parser, rule func() T) T {
	x := nested(p, rule)
	p.need(")")
	return x
}

// list reads what is separated by commas.
func list[T any](p *parser, rule func() T) []T {
	l := []T{rule()}
	for p.take(",") {
		l = append(l, rule())
	}
	return l
}
