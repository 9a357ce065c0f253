package rule

import (
	"fmt"
	"math/rand/v2"
	"regexp"
	"slices"
	"strings"
	"testing"

	"lyceum/api"
	"lyceum/format"
	"lyceum/match"
	"lyceum/parse"
	"lyceum/subst"
	"lyceum/syntax"
)

// deep is how many levels of nesting all functions must stand.
const deep = 1 << 16

// In texts of tests a placeholder is written as it is. For the layers of texts, which do not know it, it is a function with a name that begins with ph.
var (
	holders  = regexp.MustCompile(`\?([u-z][0-9]*)`)
	standing = regexp.MustCompile(`\bph([u-z][0-9]*)`)
)

// form returns the schema, with placeholders or not, that a text says.
func form(text string) api.Form {
	f, at, errno := parse.Schema(holders.ReplaceAllString(text, "ph$1"))
	if errno != api.OK {
		panic("no schema: " + text + " at " + text[at:])
	}
	return changedForm(f, func(t api.Term) api.Term {
		if name, ok := strings.CutPrefix(t.Name, "ph"); ok {
			return variable("?" + name)
		}
		return t
	})
}

// term returns the term that a text says.
func term(text string) api.Term { return form("P(" + text + ")").Args[0] }

// show returns a text of a formula.
func show(f api.Form) string {
	text, errno := format.Form(changedForm(f, func(t api.Term) api.Term {
		if t.Var && holders.MatchString(t.Name) {
			return api.Term{Name: "ph" + t.Name[1:]}
		}
		return t
	}))
	if errno != api.OK {
		return "(not right)"
	}
	return standing.ReplaceAllString(text, "?$1")
}

// changedForm returns a formula whose terms, those in others first, are what a function makes of them.
func changedForm(f api.Form, change func(t api.Term) api.Term) api.Form {
	f.Args = changedTerms(f.Args, change)
	var sub []api.Form
	for _, part := range f.Sub {
		sub = append(sub, changedForm(part, change))
	}
	f.Sub = sub
	return f
}

func changedTerms(list []api.Term, change func(t api.Term) api.Term) []api.Term {
	var l []api.Term
	for _, t := range list {
		t.Args = changedTerms(t.Args, change)
		l = append(l, change(t))
	}
	return l
}

// fields returns the parts of a text between separators that are outside of braces; no part of an empty one.
func fields(text string, separator rune) []string {
	inside := false
	l := strings.FieldsFunc(text, func(c rune) bool {
		inside = c == '{' || inside && c != '}'
		return c == separator && !inside
	})
	for i := range l {
		l[i] = strings.TrimSpace(l[i])
	}
	return slices.DeleteFunc(l, func(s string) bool { return s == "" })
}

// rules returns the rule that a text says, such as ?A | ?B; closed {?A} ?C; fresh ?a {?A[?a/x]; ?B} ?C => ?C.
func rules(text string) api.Rule {
	before, concl, _ := strings.Cut(text, "=>")
	r := api.Rule{Name: "some1", Concl: form(concl)}
	for _, part := range fields(before, ';') {
		r.Prems = append(r.Prems, premise(part))
	}
	return r
}

// premise returns a premise of a rule.
func premise(text string) api.Prem {
	var p api.Prem
	if text, p.Closed = strings.CutPrefix(text, "closed "); strings.HasPrefix(text, "fresh ") {
		p.Fresh = strings.Fields(text)[1]
		text = text[len("fresh ")+len(p.Fresh):]
	}
	if text = strings.TrimSpace(text); strings.HasPrefix(text, "{") {
		hyps, concl, _ := strings.Cut(text[1:], "}")
		text = concl
		for _, hyp := range fields(hyps, ';') {
			p.Hyps = append(p.Hyps, form(hyp))
		}
	}
	p.Concl = form(text)
	return p
}

// showPremises returns the text of premises of a rule.
func showPremises(list []api.Prem) string {
	var l []string
	for _, p := range list {
		text := show(p.Concl)
		if len(p.Hyps) > 0 {
			var hyps []string
			for _, hyp := range p.Hyps {
				hyps = append(hyps, show(hyp))
			}
			text = "{" + strings.Join(hyps, "; ") + "} " + text
		}
		if p.Fresh != "" {
			text = "fresh " + p.Fresh + " " + text
		}
		if p.Closed {
			text = "closed " + text
		}
		l = append(l, text)
	}
	return strings.Join(l, "; ")
}

func showRule(r api.Rule) string { return showPremises(r.Prems) + " => " + show(r.Concl) }

// steps returns the premises and the conclusion of a step that a text says, such as {P; -} Q / R, S; P => Q: behind a bar is the Rest, and - is an assumption that is not there.
func steps(text string) (api.Form, []Got) {
	before, concl, _ := strings.Cut(text, "=>")
	var l []Got
	for _, part := range fields(before, ';') {
		var g Got
		if strings.HasPrefix(part, "{") {
			hyps, behind, _ := strings.Cut(part[1:], "}")
			part = behind
			for _, hyp := range fields(hyps, ';') {
				if hyp == "-" {
					g.Hyps = append(g.Hyps, Hyp{})
				} else {
					g.Hyps = append(g.Hyps, Hyp{true, form(hyp)})
				}
			}
		}
		part, rest, _ := strings.Cut(part, "/")
		g.Concl = form(part)
		for _, f := range fields(rest, '+') {
			g.Rest = append(g.Rest, form(f))
		}
		l = append(l, g)
	}
	return form(concl), l
}

// showStep returns the text of a step.
func showStep(concl api.Form, list []Got) string {
	var l []string
	for _, g := range list {
		text := show(g.Concl)
		if len(g.Hyps) > 0 {
			var hyps []string
			for _, h := range g.Hyps {
				if h.Some {
					hyps = append(hyps, show(h.Form))
				} else {
					hyps = append(hyps, "-")
				}
			}
			text = "{" + strings.Join(hyps, "; ") + "} " + text
		}
		for i, f := range g.Rest {
			text += " " + "/+"[min(i, 1):min(i, 1)+1] + " " + show(f)
		}
		l = append(l, text)
	}
	return strings.Join(l, "; ") + " => " + show(concl)
}

// bindings returns the binding that a text says, such as ?A: P & Q; ?t: f(x); in any order.
func bindings(text string) match.Binding {
	var b match.Binding
	for _, part := range fields(text, ';') {
		name, what, _ := strings.Cut(part, ": ")
		if name[1] < 'a' {
			b.Forms = append(b.Forms, match.FormBind{Name: name, Form: form(what)})
		} else {
			b.Terms = append(b.Terms, match.TermBind{Name: name, Term: term(what)})
		}
	}
	return b
}

// showBinding returns the text of a binding.
func showBinding(b match.Binding) string {
	var l []string
	for _, f := range b.Forms {
		l = append(l, f.Name+": "+show(f.Form))
	}
	for _, t := range b.Terms {
		text := show(atom("P", t.Term))
		l = append(l, t.Name+": "+text[2:len(text)-1])
	}
	return strings.Join(l, "; ")
}

// empty reports whether a binding is zero.
func empty(b match.Binding) bool { return len(b.Forms) == 0 && len(b.Terms) == 0 }

func variable(name string) api.Term { return api.Term{Var: true, Name: name} }

// atom returns a formula without parts.
func atom(name string, args ...api.Term) api.Form {
	return api.Form{Op: api.OpAtom, Name: name, Args: args}
}

// one returns a formula of one part.
func one(op uint8, name string, part api.Form) api.Form {
	return api.Form{Op: op, Name: name, Sub: []api.Form{part}}
}

// nots returns a formula below n negations.
func nots(n int, f api.Form) api.Form {
	for range n {
		f = one(api.OpNot, "", f)
	}
	return f
}

// conjunction returns a formula with n times some part, as flat as can be.
func conjunction(n int, part api.Form) api.Form {
	if n == 1 {
		return part
	}
	return api.Form{Op: api.OpAnd, Sub: []api.Form{conjunction(n/2, part), conjunction(n-n/2, part)}}
}

// checkMany reports if too few of the drawn inputs were of a kind.
func checkMany(t *testing.T, what string, n, least int) {
	t.Helper()
	if n < least {
		t.Errorf("%d times only: %s", n, what)
	}
}

// draws draws rules and steps, out of few names.
type draws struct{ *rand.Rand }

// fixed returns draws that are the same in each run.
func fixed(n uint64) draws { return draws{rand.New(rand.NewPCG(8, n))} }

// of draws one of some strings.
func (d draws) of(l ...string) string { return l[d.IntN(len(l))] }

// term draws a term of at most two levels, with variables of a list.
func (d draws) term(variables ...string) api.Term {
	switch d.IntN(8) {
	case 0:
		return api.Term{Name: "a"}
	case 1:
		return api.Term{Name: "f", Args: []api.Term{variable(d.of(variables...))}}
	}
	return variable(d.of(variables...))
}

// form draws a formula of at most so many levels, with variables of a list in its terms.
func (d draws) form(levels int, variables ...string) api.Form {
	return d.schema(levels, nil, variables...)
}

// schema draws a schema: what metas draws comes instead of some of its parts.
func (d draws) schema(levels int, metas func() api.Form, variables ...string) api.Form {
	n := d.IntN(10)
	switch {
	case levels > 1 && n < 3:
		return api.Form{Op: api.OpAnd + uint8(d.IntN(4)), Sub: []api.Form{d.schema(levels-1, metas, variables...), d.schema(levels-1, metas, variables...)}}
	case levels > 1 && n < 5:
		return one(api.OpAll+uint8(d.IntN(2)), d.of("x", "y", "x1"), d.schema(levels-1, metas, variables...))
	case metas != nil && n < 9:
		return metas()
	}
	f := atom(d.of("P", "Q"))
	for range d.IntN(3) {
		f.Args = append(f.Args, d.term(variables...))
	}
	return f
}

// rule draws a rule, which may be right or not.
func (d draws) rule() api.Rule {
	metas := func() api.Form {
		f := api.Form{Op: api.OpMeta, Name: d.of("?A", "?B")}
		if d.IntN(3) == 0 {
			f.Op, f.Args = api.OpInst, []api.Term{variable("x"), variable(d.of("?a", "?b", "?t"))}
		}
		return f
	}
	schema := func(levels int) api.Form { return d.schema(levels, metas, "x", "y", "?a", "?t") }
	r := api.Rule{Name: "drawn", Concl: schema(3)}
	for range d.IntN(4) {
		p := api.Prem{Concl: schema(2), Closed: d.IntN(4) == 0}
		for range d.IntN(3) {
			p.Hyps = append(p.Hyps, schema(2))
		}
		if d.IntN(2) == 0 {
			p.Fresh = d.of("?a", "?b")
		}
		r.Prems = append(r.Prems, p)
	}
	return r
}

// rightRule draws a right rule.
func (d draws) rightRule() api.Rule {
	for {
		if r := d.rule(); Right(r) {
			return r
		}
	}
}

// binding draws a binding of all metavariables that are drawn.
func (d draws) binding() match.Binding {
	var b match.Binding
	for _, name := range []string{"?A", "?B", "?C", "?D"} {
		b.Forms = append(b.Forms, match.FormBind{Name: name, Form: d.form(3, "x", "y", "?x", "?x", "x1")})
	}
	for _, name := range []string{"?a", "?b", "?t"} {
		b.Terms = append(b.Terms, match.TermBind{Name: name, Term: d.term("x", "y", "x1", "x2")})
	}
	return b
}

// without returns a binding without the terms of these names.
func without(b match.Binding, names ...string) match.Binding {
	b.Terms = slices.DeleteFunc(slices.Clone(b.Terms), func(t match.TermBind) bool { return slices.Contains(names, t.Name) })
	return b
}

// step returns a step by premises that Back has returned, with all that is discharged, and no other assumptions.
func step(list []api.Prem) []Got {
	var l []Got
	for _, p := range list {
		g := Got{Concl: p.Concl}
		for _, hyp := range p.Hyps {
			g.Hyps = append(g.Hyps, Hyp{true, hyp})
		}
		l = append(l, g)
	}
	return l
}

// renamed draws a formula that is the same up to bound names.
func (d draws) renamed(f api.Form) api.Form {
	var sub []api.Form
	for _, part := range f.Sub {
		sub = append(sub, d.renamed(part))
	}
	f.Sub = sub
	if f.Op != api.OpAll && f.Op != api.OpSome {
		return f
	}
	name := d.of("z", "u", "x", "x1", "x5")
	if name == f.Name || slices.Contains(subst.Free(f), name) {
		return f
	}
	part, errno := subst.Put(f.Sub[0], f.Name, variable(name))
	if errno != api.OK {
		return f
	}
	return one(f.Op, name, part)
}

// copied returns the premises of a step in memory of their own.
func copied(list []Got) []Got {
	var l []Got
	for _, g := range list {
		g.Concl = syntax.Copy(g.Concl)
		g.Hyps, g.Rest = slices.Clone(g.Hyps), slices.Clone(g.Rest)
		for i, h := range g.Hyps {
			g.Hyps[i].Form = syntax.Copy(h.Form)
		}
		for i, f := range g.Rest {
			g.Rest[i] = syntax.Copy(f)
		}
		l = append(l, g)
	}
	return l
}

// showFault returns the text of a fault.
func showFault(f Fault) string { return fmt.Sprint(f.Kind, f.Prem, f.Index) }

// spoil overwrites all memory that a formula has.
func spoil(f api.Form) {
	spoilTerms(f.Args)
	for i, part := range f.Sub {
		spoil(part)
		f.Sub[i] = api.Form{Op: 99, Name: "spoilt"}
	}
}

func spoilTerms(l []api.Term) {
	for i, t := range l {
		spoilTerms(t.Args)
		l[i] = api.Term{Name: "spoilt"}
	}
}

// spoilBinding overwrites all memory that a binding has.
func spoilBinding(b match.Binding) {
	for i, f := range b.Forms {
		spoil(f.Form)
		b.Forms[i] = match.FormBind{Name: "spoilt"}
	}
	for i, t := range b.Terms {
		spoilTerms(t.Term.Args)
		b.Terms[i] = match.TermBind{Name: "spoilt"}
	}
}
