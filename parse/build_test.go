package parse

import (
	"math/rand/v2"
	"strings"

	"lyceum/api"
)

// signs has how the operators of one and of two parts are written.
var signs = map[uint8]string{
	api.OpNot: "~", api.OpBox: "[]", api.OpDia: "<>", api.OpNext: "next", api.OpAlways: "always", api.OpAll: "all", api.OpSome: "some",
	api.OpAnd: "&", api.OpOr: "|", api.OpUntil: "until", api.OpImp: "->", api.OpIff: "<->",
}

// strengths has how strongly an operator of two parts binds.
var strengths = map[uint8]int{api.OpIff: 1, api.OpImp: 2, api.OpUntil: 3, api.OpOr: 4, api.OpAnd: 5}

// strongest is stronger than all operators of two parts.
const strongest = 6

// atom returns a formula without parts.
func atom(name string, args ...api.Term) api.Form {
	return api.Form{Op: api.OpAtom, Name: name, Args: args}
}

// one1 returns a formula of one part; name is the variable of a quantifier.
func one1(op uint8, name string, part api.Form) api.Form {
	return api.Form{Op: op, Name: name, Sub: []api.Form{part}}
}

// two returns a formula of two parts.
func two(op uint8, left, right api.Form) api.Form {
	return api.Form{Op: op, Sub: []api.Form{left, right}}
}

// variable returns a term with Var.
func variable(name string) api.Term { return api.Term{Var: true, Name: name} }

// function returns a term of a function.
func function(name string, args ...api.Term) api.Term { return api.Term{Name: name, Args: args} }

// termText writes a term.
func termText(t api.Term) string {
	s := t.Name
	for i, arg := range t.Args {
		s += map[bool]string{true: "(", false: ","}[i == 0] + termText(arg)
	}
	if len(t.Args) > 0 {
		s += ")"
	}
	return s
}

// full writes a formula with brackets around all that has parts.
func full(f api.Form) string {
	s := signs[f.Op]
	switch len(f.Sub) {
	case 1:
		return "(" + s + " " + f.Name + " " + full(f.Sub[0]) + ")"
	case 2:
		return "(" + full(f.Sub[0]) + " " + s + " " + full(f.Sub[1]) + ")"
	}
	switch f.Op {
	case api.OpFalse:
		return "false"
	case api.OpInst:
		return f.Name + "[" + f.Args[1].Name + "/" + f.Args[0].Name + "]"
	}
	return termText(function(f.Name, f.Args...))
}

// draws draws formulas and texts.
type draws struct{ *rand.Rand }

// fixed returns draws that are the same in each run.
func fixed(n uint64) draws { return draws{rand.New(rand.NewPCG(5, n))} }

// of draws one of some strings.
func (d draws) of(l ...string) string { return l[d.IntN(len(l))] }

// term draws a term of at most so many levels.
func (d draws) term(levels int, metas bool) api.Term {
	if metas && d.IntN(4) == 0 {
		return variable(d.of("?t", "?a1"))
	}
	if d.IntN(3) == 0 {
		return variable(d.of("x", "y12", "u"))
	}
	t := function(d.of("a", "f", "s9", "next1"))
	for range min(levels-1, d.IntN(4)) {
		t.Args = append(t.Args, d.term(levels-1, metas))
	}
	return t
}

// form draws a formula, or a schema, of at most so many levels.
func (d draws) form(levels int, metas bool) api.Form {
	op := uint8(1 + d.IntN(int(api.OpInst)))
	switch {
	case op >= api.OpMeta && !metas, levels == 1 && op > api.OpFalse && op < api.OpMeta:
		op = api.OpAtom
	}
	switch {
	case op == api.OpFalse:
		return api.Form{Op: op}
	case op == api.OpMeta:
		return api.Form{Op: op, Name: d.of("?A", "?Until")}
	case op == api.OpInst:
		return api.Form{Op: op, Name: d.of("?A", "?B2"), Args: []api.Term{variable(d.of("x", "z0")), variable(d.of("?t", "?a1"))}}
	case op == api.OpAtom:
		t := d.term(3, metas)
		return atom(d.of("P", "Q1", "Even2"), t.Args...)
	case op == api.OpAll || op == api.OpSome:
		return one1(op, d.of("x", "y12"), d.form(levels-1, metas))
	case strengths[op] > 0:
		return two(op, d.form(levels-1, metas), d.form(levels-1, metas))
	}
	return one1(op, "", d.form(levels-1, metas))
}

// tokens writes a formula with no bracket that is needed left out, and some that are not; least is how strongly it must bind.
func (d draws) tokens(f api.Form, least int, extra bool) []string {
	if extra && d.IntN(6) == 0 {
		return bracketed(d.tokens(f, 0, extra))
	}
	if len(f.Sub) == 0 {
		return split(full(f))
	}
	if len(f.Sub) == 1 {
		l := []string{signs[f.Op]}
		if f.Name != "" {
			l = append(l, f.Name)
		}
		return append(l, d.tokens(f.Sub[0], strongest, extra)...)
	}
	own := strengths[f.Op]
	left, right := own, own+1
	if f.Op == api.OpImp || f.Op == api.OpUntil {
		left, right = own+1, own
	}
	l := append(d.tokens(f.Sub[0], left, extra), signs[f.Op])
	l = append(l, d.tokens(f.Sub[1], right, extra)...)
	if own < least {
		return bracketed(l)
	}
	return l
}

// bracketed puts brackets around tokens.
func bracketed(l []string) []string {
	return append(append([]string{"("}, l...), ")")
}

// split divides the text of a formula without parts.
func split(s string) []string {
	for _, sign := range []string{"(", ")", ",", "[", "]", "/"} {
		s = strings.ReplaceAll(s, sign, " "+sign+" ")
	}
	return strings.Fields(s)
}

// joined joins tokens, with blanks where none is needed, and with none between most that need none.
func (d draws) joined(l []string) string {
	const letters = "abcdefghijklmnopqrstuvwxyzABCDEFGHIJKLMNOPQRSTUVWXYZ0123456789"
	s := d.of("", "", " ", "\n")
	for i, token := range l {
		if i > 0 && (d.IntN(3) == 0 || strings.Contains(letters, token[:1]) && strings.Contains(letters, s[len(s)-1:]) || token == "]" && l[i-1] == "[") {
			s += d.of(" ", "\t", "\r\n", "   ")
		}
		s += token
	}
	return s + d.of("", "", " ", "\n\n")
}

// pieces are tokens of all sorts.
var pieces = strings.Fields("all some false next always until P Q1 f a x y12 ?A ?t ( ) , ~ & | / -> <-> [] <> [ ]")

// broken changes a few tokens of a list: one goes, comes, or is another one.
func (d draws) broken(l []string) []string {
	l = append([]string(nil), l...)
	for range d.IntN(3) {
		i := d.IntN(len(l) + 1)
		piece := []string{d.of(pieces...)}
		if i == len(l) {
			l = append(l, piece...)
			continue
		}
		end := append([]string(nil), l[i+d.IntN(2):]...)
		l = append(l[:i], append(piece[d.IntN(2):], end...)...)
	}
	return l
}
