package rule

import (
	"iter"
	"slices"
	"strings"

	"lyceum/api"
	"lyceum/syntax"
)

// ruleName reports whether a string is a name of a rule.
func ruleName(s string) bool {
	letter := func(c rune) bool { return 'a' <= c && c <= 'z' || 'A' <= c && c <= 'Z' }
	other := func(c rune) bool { return !letter(c) && (c < '0' || c > '9') }
	return s != "" && len(s) <= api.MaxName && letter(rune(s[0])) && !strings.ContainsFunc(s, other)
}

// fewParts reports whether a rule has not too many premises, and they not too many Hyps.
func fewParts(r api.Rule) bool {
	many := func(p api.Prem) bool { return len(p.Hyps) > MaxHyps }
	return len(r.Prems) <= MaxPrems && !slices.ContainsFunc(r.Prems, many)
}

// schemas yields the schemas of a rule.
func schemas(r api.Rule) iter.Seq[api.Form] {
	return func(yield func(api.Form) bool) {
		for concl := range conclusions(r) {
			if !yield(concl) {
				return
			}
		}
		for _, p := range r.Prems {
			for _, hyp := range p.Hyps {
				if !yield(hyp) {
					return
				}
			}
		}
	}
}

// conclusions yields the conclusions of a rule and of its premises.
func conclusions(r api.Rule) iter.Seq[api.Form] {
	return func(yield func(api.Form) bool) {
		if !yield(r.Concl) {
			return
		}
		for _, p := range r.Prems {
			if !yield(p.Concl) {
				return
			}
		}
	}
}

// allFound reports whether matching finds all metavariables of formulas of a rule in any step: they must stand as they are, not only with a term in the place of a variable, where a step always has a formula.
func allFound(r api.Rule) bool {
	found := map[string]bool{}
	for concl := range conclusions(r) {
		for _, part := range syntax.Parts(concl) {
			if part.Op == api.OpMeta {
				found[part.Name] = true
			}
		}
	}
	lost := func(part api.Form) bool {
		return (part.Op == api.OpMeta || part.Op == api.OpInst) && !found[part.Name]
	}
	for schema := range schemas(r) {
		if slices.ContainsFunc(syntax.Parts(schema), lost) {
			return false
		}
	}
	return true
}

// wrongFresh reports whether a premise has a Fresh that is not what it puts for a variable.
func wrongFresh(p api.Prem) bool {
	puts := func(part api.Form) bool { return part.Op == api.OpInst && part.Args[1].Name == p.Fresh }
	in := func(schema api.Form) bool { return slices.ContainsFunc(syntax.Parts(schema), puts) }
	return p.Fresh != "" && !in(p.Concl) && !slices.ContainsFunc(p.Hyps, in)
}
