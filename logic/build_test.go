package logic

import (
	"math/rand/v2"
	"reflect"
	"slices"
	"strings"
	"testing"

	"lyceum/api"
	"lyceum/format"
	"lyceum/parse"
	"lyceum/subst"
	"lyceum/syntax"
)

// deep is how many levels of nesting all functions must stand.
const deep = 1 << 16

// form returns the schema that a text says.
func form(text string) api.Form {
	f, at, errno := parse.Schema(text)
	if errno != api.OK {
		panic("no schema: " + text + " at " + text[at:])
	}
	return f
}

// show returns a text of a formula.
func show(f api.Form) string {
	text, errno := format.Form(f)
	if errno != api.OK {
		return "(not right)"
	}
	return text
}

// ruleOf returns a rule by its texts, such as andI, "?A; ?B", "?A & ?B". It looks for the signs of a premise one after the other, so it reads the texts in another way than the library.
func ruleOf(name, prems, concl string) api.Rule {
	r := api.Rule{Name: name, Concl: form(concl)}
	for prems = strings.TrimSpace(prems); prems != ""; prems = strings.TrimLeft(prems, "; ") {
		var p api.Prem
		for {
			word, rest, _ := strings.Cut(prems, " ")
			if word == "closed" {
				p.Closed, prems = true, rest
			} else if word == "fresh" {
				p.Fresh, prems, _ = strings.Cut(rest, " ")
			} else {
				break
			}
		}
		if prems[0] == '{' {
			end := strings.IndexByte(prems, '}')
			for _, hyp := range strings.Split(prems[1:end], ";") {
				p.Hyps = append(p.Hyps, form(hyp))
			}
			prems = prems[end+1:]
		}
		end := strings.IndexByte(prems+";", ';')
		p.Concl, prems = form(prems[:end]), prems[end:]
		r.Prems = append(r.Prems, p)
	}
	return r
}

// showRule returns the text of a rule.
func showRule(r api.Rule) string {
	var l []string
	for _, p := range r.Prems {
		text := ""
		if p.Closed {
			text = "closed "
		}
		if p.Fresh != "" {
			text += "fresh " + p.Fresh + " "
		}
		if len(p.Hyps) > 0 {
			var hyps []string
			for _, hyp := range p.Hyps {
				hyps = append(hyps, show(hyp))
			}
			text += "{" + strings.Join(hyps, "; ") + "} "
		}
		l = append(l, text+show(p.Concl))
	}
	return r.Name + ": " + strings.Join(l, "; ") + " => " + show(r.Concl)
}

// named returns a logic of the library.
func named(t *testing.T, name string) api.Logic {
	t.Helper()
	l, errno := Named(name)
	if errno != api.OK {
		t.Fatalf("%s: error %d", name, errno)
	}
	return l
}

// logicOf returns a logic of a semantics with all operators of it, and rules r1, r2, .. with the conclusions that texts say.
func logicOf(kind uint8, concls ...string) api.Logic {
	l := api.Logic{Name: "Some1", Kind: kind, Ops: Ops(kind)}
	for i, concl := range concls {
		r := ruleOf("r"+string(rune('1'+i)), "?A; ?B; ?C", concl)
		l.Rules = append(l.Rules, r)
	}
	return l
}

func variable(name string) api.Term { return api.Term{Var: true, Name: name} }

// atom returns a formula without parts.
func atom(name string, args ...api.Term) api.Form {
	return api.Form{Op: api.OpAtom, Name: name, Args: args}
}

// one returns a formula of one part.
func one(op uint8, name string, part api.Form) api.Form {
	return api.Form{Op: op, Name: name, Sub: []api.Form{part}}
}

// two returns a formula of two parts.
func two(op uint8, a, b api.Form) api.Form { return api.Form{Op: op, Sub: []api.Form{a, b}} }

// nots returns a formula below n negations.
func nots(n int, f api.Form) api.Form {
	for range n {
		f = one(api.OpNot, "", f)
	}
	return f
}

// conjunction returns a formula with n times some part, as flat as can be.
func conjunction(n int, part api.Form) api.Form {
	if n == 1 {
		return part
	}
	return two(api.OpAnd, conjunction(n/2, part), conjunction(n-n/2, part))
}

// formOf returns a right formula whose main operator is this one.
func formOf(op uint8) api.Form {
	switch p := atom("P"); op {
	case api.OpAtom:
		return p
	case api.OpFalse:
		return api.Form{Op: op}
	case api.OpAnd, api.OpOr, api.OpImp, api.OpIff, api.OpUntil:
		return two(op, p, p)
	case api.OpAll, api.OpSome:
		return one(op, "x", p)
	default:
		return one(op, "", p)
	}
}

// draws draws formulas and logics, out of few names.
type draws struct{ *rand.Rand }

// fixed returns draws that are the same in each run.
func fixed(n uint64) draws { return draws{rand.New(rand.NewPCG(9, n))} }

// term draws a term; one with more arguments than a formula of a logic may have is rare.
func (d draws) term(levels int) api.Term {
	switch n := d.IntN(20); {
	case levels > 1 && n < 6:
		return api.Term{Name: "f", Args: []api.Term{d.term(levels - 1)}}
	case levels > 1 && n == 6:
		return api.Term{Name: "g", Args: []api.Term{d.term(levels - 1), d.term(levels - 1)}}
	case n < 12:
		return api.Term{Name: "a"}
	}
	return variable([]string{"x", "y"}[d.IntN(2)])
}

// form draws a formula of at most so many levels, with some of these operators beside atoms, and atoms of at most so many arguments.
func (d draws) form(levels, args int, ops []uint8) api.Form {
	if levels == 1 || d.IntN(5) == 0 {
		f := atom([]string{"P", "Q"}[d.IntN(2)])
		for range d.IntN(args + 1) {
			f.Args = append(f.Args, d.term(3))
		}
		return f
	}
	op := ops[d.IntN(len(ops))]
	f := formOf(op)
	for i := range f.Sub {
		f.Sub[i] = d.form(levels-1, args, ops)
	}
	return f
}

// renamed draws a formula that is the same up to bound names.
func (d draws) renamed(f api.Form) api.Form {
	f = syntax.Copy(f)
	for i, part := range f.Sub {
		f.Sub[i] = d.renamed(part)
	}
	name := []string{"z", "u", "x1", "x5"}[d.IntN(4)]
	if f.Op != api.OpAll && f.Op != api.OpSome || slices.Contains(subst.Free(f), name) {
		return f
	}
	part, errno := subst.Put(f.Sub[0], f.Name, variable(name))
	if errno != api.OK {
		return f
	}
	return one(f.Op, name, part)
}

// copiedLogic returns a logic in memory of its own.
func copiedLogic(l api.Logic) api.Logic {
	l.Rules = slices.Clone(l.Rules)
	for i, r := range l.Rules {
		r.Prems = slices.Clone(r.Prems)
		for j, p := range r.Prems {
			p.Hyps = slices.Clone(p.Hyps)
			for k, hyp := range p.Hyps {
				p.Hyps[k] = syntax.Copy(hyp)
			}
			p.Concl = syntax.Copy(p.Concl)
			r.Prems[j] = p
		}
		r.Concl = syntax.Copy(r.Concl)
		l.Rules[i] = r
	}
	return l
}

// sameRule reports whether two rules are equal; empty slices are as good as none.
func sameRule(a, b api.Rule) bool {
	return showRule(a) == showRule(b) && reflect.DeepEqual(fieldsOf(a), fieldsOf(b))
}

// fieldsOf returns what a rule has, in lists that are never nil.
func fieldsOf(r api.Rule) []any {
	l := []any{r.Name, len(r.Prems), syntax.Copy(r.Concl)}
	for _, p := range r.Prems {
		l = append(l, p.Fresh, p.Closed, len(p.Hyps), syntax.Copy(p.Concl))
		for _, hyp := range p.Hyps {
			l = append(l, syntax.Copy(hyp))
		}
	}
	return l
}

// sameLogic reports whether two logics are equal.
func sameLogic(a, b api.Logic) bool {
	return a.Name == b.Name && a.Ops == b.Ops && a.Kind == b.Kind && a.Frame == b.Frame && slices.EqualFunc(a.Rules, b.Rules, sameRule)
}

// zeroLogic reports whether a logic is zero.
func zeroLogic(l api.Logic) bool { return sameLogic(l, api.Logic{}) }

// zeroRule reports whether a rule is zero.
func zeroRule(r api.Rule) bool { return sameRule(r, api.Rule{}) }

// spoil overwrites all memory that a formula has.
func spoil(f api.Form) {
	spoilTerms(f.Args)
	for i, part := range f.Sub {
		spoil(part)
		f.Sub[i] = api.Form{Op: 99, Name: "spoilt"}
	}
}

func spoilTerms(l []api.Term) {
	for i, t := range l {
		spoilTerms(t.Args)
		l[i] = api.Term{Name: "spoilt"}
	}
}

// spoilRule overwrites all memory that a rule has, with what slices have beyond their ends.
func spoilRule(r api.Rule) {
	spoil(r.Concl)
	for i, p := range r.Prems {
		spoil(p.Concl)
		for j, hyp := range p.Hyps {
			spoil(hyp)
			p.Hyps[j] = api.Form{Op: 99}
		}
		for j := range p.Hyps[len(p.Hyps):cap(p.Hyps)] {
			p.Hyps[:cap(p.Hyps)][len(p.Hyps)+j] = api.Form{Op: 99}
		}
		r.Prems[i] = api.Prem{Fresh: "spoilt"}
	}
	for i := range r.Prems[len(r.Prems):cap(r.Prems)] {
		r.Prems[:cap(r.Prems)][len(r.Prems)+i] = api.Prem{Fresh: "spoilt"}
	}
}

// checkMany reports if too few of the drawn inputs were of a kind.
func checkMany(t *testing.T, what string, n, least int) {
	t.Helper()
	if n < least {
		t.Errorf("%d times only: %s", n, what)
	}
}
