package match

import (
	"math/rand/v2"
	"regexp"
	"slices"
	"strings"
	"testing"

	"lyceum/api"
	"lyceum/format"
	"lyceum/parse"
	"lyceum/syntax"
)

// deep is how many levels of nesting all functions must stand.
const deep = 1 << 16

// In texts of tests a placeholder is written as it is. For the layers of texts, which do not know it, it is a function with a name that begins with ph.
var (
	holders  = regexp.MustCompile(`\?([u-z][0-9]*)`)
	standing = regexp.MustCompile(`\bph([u-z][0-9]*)`)
)

// form returns the schema, with placeholders or not, that a text says.
func form(text string) api.Form {
	f, at, errno := parse.Schema(holders.ReplaceAllString(text, "ph$1"))
	if errno != api.OK {
		panic("no schema: " + text + " at " + text[at:])
	}
	return changedForm(f, marked)
}

// term returns the term that a text says.
func term(text string) api.Term { return form("P(" + text + ")").Args[0] }

// show returns a text of a formula.
func show(f api.Form) string {
	text, errno := format.Form(changedForm(f, unmarkedTerm))
	if errno != api.OK {
		return "(not right)"
	}
	return standing.ReplaceAllString(text, "?$1")
}

// showTerm returns a text of a term.
func showTerm(t api.Term) string {
	return strings.TrimSuffix(strings.TrimPrefix(show(atom("P", t)), "P("), ")")
}

// marked returns a term with placeholders instead of functions that stand for them.
func marked(t api.Term) api.Term {
	if name, ok := strings.CutPrefix(t.Name, "ph"); ok {
		return variable("?" + name)
	}
	return t
}

// unmarkedTerm returns a term with functions that stand for placeholders.
func unmarkedTerm(t api.Term) api.Term {
	if t.Var && holders.MatchString(t.Name) {
		return function("ph" + t.Name[1:])
	}
	return t
}

// changedForm returns a formula whose terms, those in others first, are what a function makes of them.
func changedForm(f api.Form, change func(t api.Term) api.Term) api.Form {
	f.Args = changedTerms(f.Args, change)
	var sub []api.Form
	for _, part := range f.Sub {
		sub = append(sub, changedForm(part, change))
	}
	f.Sub = sub
	return f
}

func changedTerms(list []api.Term, change func(t api.Term) api.Term) []api.Term {
	var l []api.Term
	for _, t := range list {
		t.Args = changedTerms(t.Args, change)
		l = append(l, change(t))
	}
	return l
}

// bindings returns the binding that a text says, such as ?A: P & Q; ?t: f(x); in any order.
func bindings(text string) Binding {
	var b Binding
	for _, part := range strings.Split(text, ";") {
		name, what, ok := strings.Cut(strings.TrimSpace(part), ": ")
		switch {
		case !ok:
		case name[1] < 'a':
			b.Forms = append(b.Forms, FormBind{name, form(what)})
		default:
			b.Terms = append(b.Terms, TermBind{name, term(what)})
		}
	}
	return b
}

// showBinding returns the text of a binding.
func showBinding(b Binding) string {
	var l []string
	for _, f := range b.Forms {
		l = append(l, f.Name+": "+show(f.Form))
	}
	for _, t := range b.Terms {
		l = append(l, t.Name+": "+showTerm(t.Term))
	}
	return strings.Join(l, "; ")
}

// pairs returns the pairs that a text says, such as ?A -> ?B = P -> Q; ?A = P.
func pairs(text string) []Pair {
	var l []Pair
	for _, part := range strings.Split(text, ";") {
		if schema, f, ok := strings.Cut(part, " = "); ok {
			l = append(l, Pair{form(schema), form(f)})
		}
	}
	return l
}

// showPairs returns the text of pairs.
func showPairs(l []Pair) string {
	var texts []string
	for _, p := range l {
		texts = append(texts, show(p.Schema)+" = "+show(p.Form))
	}
	return strings.Join(texts, "; ")
}

// sameBinding reports whether two bindings are equal.
func sameBinding(a, b Binding) bool {
	return slices.EqualFunc(a.Forms, b.Forms, func(f, g FormBind) bool { return f.Name == g.Name && syntax.Same(f.Form, g.Form) }) &&
		slices.EqualFunc(a.Terms, b.Terms, func(t, u TermBind) bool { return t.Name == u.Name && syntax.SameTerm(t.Term, u.Term) })
}

// empty reports whether a binding is zero.
func empty(b Binding) bool { return len(b.Forms) == 0 && len(b.Terms) == 0 }

// atom returns a formula without parts.
func atom(name string, args ...api.Term) api.Form {
	return api.Form{Op: api.OpAtom, Name: name, Args: args}
}

// function returns a term of a function.
func function(name string, args ...api.Term) api.Term { return api.Term{Name: name, Args: args} }

// meta returns a metavariable of formulas.
func meta(name string) api.Form { return api.Form{Op: api.OpMeta, Name: name} }

// one returns a formula of one part.
func one(op uint8, name string, part api.Form) api.Form {
	return api.Form{Op: op, Name: name, Sub: []api.Form{part}}
}

// and returns a conjunction.
func and(left, right api.Form) api.Form {
	return api.Form{Op: api.OpAnd, Sub: []api.Form{left, right}}
}

// nots returns a formula below n negations.
func nots(n int, f api.Form) api.Form {
	for range n {
		f = one(api.OpNot, "", f)
	}
	return f
}

// nested returns a term in n functions.
func nested(n int, t api.Term) api.Term {
	for range n {
		t = function("f", t)
	}
	return t
}

// wide returns a term that has n nodes, as flat as can be; n is not 0.
func wide(n int, leaf api.Term) api.Term {
	if n == 1 {
		return leaf
	}
	t := function("g")
	for rest := n - 1; rest > 0; {
		part := max(1, min(rest, (n-1)/4+1))
		t.Args = append(t.Args, wide(part, leaf))
		rest -= part
	}
	return t
}

// conjunction returns a formula with n times some part, as flat as can be.
func conjunction(n int, part api.Form) api.Form {
	if n == 1 {
		return part
	}
	return and(conjunction(n/2, part), conjunction(n-n/2, part))
}

// checkMany reports if too few of the drawn inputs were of a kind.
func checkMany(t *testing.T, what string, n, least int) {
	t.Helper()
	if n < least {
		t.Errorf("%d times only: %s", n, what)
	}
}

// draws draws schemas, formulas and bindings, out of few names.
type draws struct{ *rand.Rand }

// fixed returns draws that are the same in each run.
func fixed(n uint64) draws { return draws{rand.New(rand.NewPCG(7, n))} }

// of draws one of some strings.
func (d draws) of(l ...string) string { return l[d.IntN(len(l))] }

// term draws a term of at most so many levels, with variables of a list.
func (d draws) term(levels int, variables ...string) api.Term {
	if levels < 2 || d.IntN(3) > 0 {
		if d.IntN(6) == 0 {
			return function("a")
		}
		return variable(d.of(variables...))
	}
	t := function("f", d.term(levels-1, variables...))
	if d.IntN(3) == 0 {
		t.Args = append(t.Args, d.term(levels-1, variables...))
	}
	return t
}

// form draws a formula of at most so many levels, with variables of a list in its terms.
func (d draws) form(levels int, variables ...string) api.Form {
	return d.schema(levels, nil, variables)
}

// schema draws a schema: what metas draws comes instead of some of its parts.
func (d draws) schema(levels int, metas func() api.Form, variables []string) api.Form {
	n := d.IntN(12)
	switch {
	case levels > 1 && n < 3:
		return api.Form{Op: api.OpAnd + uint8(d.IntN(2)), Sub: []api.Form{d.schema(levels-1, metas, variables), d.schema(levels-1, metas, variables)}}
	case levels > 1 && n < 8:
		return one(api.OpAll+uint8(d.IntN(2)), d.of("x", "y", "x1"), d.schema(levels-1, metas, variables))
	case levels > 1 && n == 8:
		return nots(1, d.schema(levels-1, metas, variables))
	case metas != nil && d.IntN(2) == 0:
		return metas()
	}
	f := atom(d.of("P", "Q"))
	for range d.IntN(3) {
		f.Args = append(f.Args, d.term(3, variables...))
	}
	return f
}

// anyMeta draws a metavariable of formulas, with a term in the place of a variable or not.
func (d draws) anyMeta() api.Form {
	f := meta(d.of("?A", "?B"))
	if d.IntN(2) == 0 {
		f.Op, f.Args = api.OpInst, []api.Term{variable(d.of("x", "y")), variable(d.of("?s", "?t"))}
	}
	return f
}

// binding draws a binding of all metavariables that are drawn.
func (d draws) binding(variables ...string) Binding {
	return Binding{
		[]FormBind{{"?A", d.form(4, variables...)}, {"?B", d.form(3, variables...)}},
		[]TermBind{{"?s", d.term(2, variables...)}, {"?t", d.term(3, variables...)}},
	}
}

// part draws some of a binding.
func (d draws) part(b Binding) Binding {
	var less Binding
	for _, f := range b.Forms {
		if d.IntN(3) == 0 {
			less.Forms = append(less.Forms, f)
		}
	}
	for _, t := range b.Terms {
		if d.IntN(3) == 0 {
			less.Terms = append(less.Terms, t)
		}
	}
	return less
}

// spoil overwrites all memory that a formula has.
func spoil(f api.Form) {
	spoilTerms(f.Args)
	for i, part := range f.Sub {
		spoil(part)
		f.Sub[i] = api.Form{Op: 99, Name: "spoilt"}
	}
}

func spoilTerms(l []api.Term) {
	for i, t := range l {
		spoilTerms(t.Args)
		l[i] = api.Term{Name: "spoilt"}
	}
}
