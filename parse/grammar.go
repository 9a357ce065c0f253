package parse

import (
	"lyceum/api"
	"lyceum/lex"
	"lyceum/syntax"
)

// level is a level of binary signs: its sign, the operator that it makes, and whether it is grouped from the right.
type level struct {
	sign  string
	op    uint8
	right bool
}

// levels are the levels of binary signs, the loosest one first.
var levels = [...]level{
	{sign: "<->", op: api.OpIff},
	{sign: "->", op: api.OpImp, right: true},
	{sign: "until", op: api.OpUntil, right: true},
	{sign: "|", op: api.OpOr},
	{sign: "&", op: api.OpAnd},
}

// unaries returns the operators of the signs and words ahead of a unary.
func unaries() map[string]uint8 {
	return map[string]uint8{
		"~":      api.OpNot,
		"[]":     api.OpBox,
		"<>":     api.OpDia,
		"next":   api.OpNext,
		"always": api.OpAlways,
		"all":    api.OpAll,
		"some":   api.OpSome,
	}
}

// formulas reads the list that a whole text is; it may be empty.
func (p *parser) formulas() []api.Form {
	if p.token().Kind == lex.TokEnd {
		return nil
	}
	return list(p, p.formula)
}

// formula reads by the rule of this name.
func (p *parser) formula() api.Form { return p.binary(0) }

// binary reads by the rule of a level; behind the last level come the unaries.
func (p *parser) binary(n int) api.Form {
	if n == len(levels) {
		return p.unary()
	}
	f := p.binary(n + 1)
	for p.take(levels[n].sign) {
		f = api.Form{Op: levels[n].op, Sub: []api.Form{f, p.rightSide(n)}}
	}
	return f
}

// rightSide reads what stands behind the sign of a level. If the level is grouped from the right, that takes all further signs of this level, and is a nest.
func (p *parser) rightSide(n int) api.Form {
	if levels[n].right {
		return nested(p, func() api.Form { return p.binary(n) })
	}
	return p.binary(n + 1)
}

// unary reads by the rule of this name.
func (p *parser) unary() api.Form {
	p.begin()
	op, ok := p.unaries[p.token().Text]
	if !ok {
		return p.basic()
	}
	p.at++
	f := api.Form{Op: op}
	if op == api.OpAll || op == api.OpSome {
		f.Name = p.name(syntax.Variable)
	}
	f.Sub = []api.Form{nested(p, p.unary)}
	return f
}

// basic reads by the rule of this name.
func (p *parser) basic() api.Form {
	switch {
	case p.take("("):
		return inBrackets(p, p.formula)
	case p.take("false"):
		return api.Form{Op: api.OpFalse}
	case p.isMeta(syntax.Predicate):
		return p.meta()
	}
	name := p.name(syntax.Predicate)
	return api.Form{Op: api.OpAtom, Name: name, Args: p.args()}
}

// meta reads a metavariable of formulas, at which the parser stands, and what may be put into it.
func (p *parser) meta() api.Form {
	f := api.Form{Op: api.OpMeta, Name: p.token().Text}
	p.at++
	if !p.take("[") {
		return f
	}
	if !p.isMeta(syntax.Function) {
		panic(p.wrong(ErrSyntax))
	}
	t := p.token().Text
	p.at++
	p.need("/")
	x := p.name(syntax.Variable)
	p.need("]")
	f.Op = api.OpInst
	f.Args = []api.Term{{Var: true, Name: x}, {Var: true, Name: t}}
	return f
}

// args reads terms in brackets, if there are any.
func (p *parser) args() []api.Term {
	if !p.take("(") {
		return nil
	}
	return inBrackets(p, func() []api.Term { return list(p, p.term) })
}

// term reads by the rule of this name.
func (p *parser) term() api.Term {
	p.begin()
	text := p.token().Text
	if syntax.Variable(text) || p.isMeta(syntax.Function) {
		p.at++
		return api.Term{Var: true, Name: text}
	}
	name := p.name(syntax.Function)
	return api.Term{Name: name, Args: p.args()}
}
