package logic

import (
	"iter"
	"strings"

	"lyceum/api"
	"lyceum/rule"
	"lyceum/syntax"
)

// between returns the mask of the operators from one to another.
func between(first, last uint8) uint32 { return 1<<(last+1) - 1<<first }

// only reports whether a formula or schema has no operators but those of a mask.
func only(f api.Form, mask uint32) bool { return syntax.Ops(f)&^mask == 0 }

// logicName reports whether a string is a name of a logic.
func logicName(s string) bool {
	letter := func(c rune) bool { return 'a' <= c && c <= 'z' || 'A' <= c && c <= 'Z' }
	other := func(c rune) bool { return !letter(c) && (c < '0' || c > '9') }
	return s != "" && len(s) <= api.MaxName && letter(rune(s[0])) && !strings.ContainsFunc(s, other)
}

// rightOps reports whether a logic has atoms, and no operators but those of its semantics. What is no semantics has none.
func rightOps(l api.Logic) bool {
	return l.Ops&between(api.OpAtom, api.OpAtom) != 0 && l.Ops&^Ops(l.Kind) == 0
}

// rightFrame reports whether a logic has only conditions that a relation of its semantics can have.
func rightFrame(l api.Logic) bool {
	const conditions = api.FrameReflexive | api.FrameTransitive | api.FrameSymmetric
	return l.Frame == 0 || l.Kind == api.KindModal && l.Frame&^conditions == 0
}

// rightRules reports whether a logic has right rules of its operators, with different names.
func rightRules(l api.Logic) bool {
	if len(l.Rules) > api.MaxRules {
		return false
	}
	mask := schemaOps(l.Ops)
	named := map[string]bool{}
	for _, r := range l.Rules {
		if named[r.Name] || !rule.Right(r) {
			return false
		}
		named[r.Name] = true
		for schema := range schemas(r) {
			if !only(schema, mask) {
				return false
			}
		}
	}
	return true
}

// schemaOps returns the operators that schemas may have, for those of a logic: terms are put for variables only where there are quantifiers.
func schemaOps(ops uint32) uint32 {
	mask := ops | between(api.OpMeta, api.OpMeta)
	if ops&between(api.OpAll, api.OpSome) != 0 {
		mask |= between(api.OpInst, api.OpInst)
	}
	return mask
}

// schemas yields the schemas of a rule.
func schemas(r api.Rule) iter.Seq[api.Form] {
	return func(yield func(api.Form) bool) {
		for _, p := range r.Prems {
			for _, hyp := range p.Hyps {
				if !yield(hyp) {
					return
				}
			}
			if !yield(p.Concl) {
				return
			}
		}
		yield(r.Concl)
	}
}

// rightArgs reports whether atoms and functions have no more arguments than a semantics can give values for.
func rightArgs(f api.Form, kind uint8) bool {
	atoms, functions := 0, 1
	if kind == api.KindFinite {
		atoms = 2
	}
	return most(syntax.Predicates(f), atoms) && most(syntax.Functions(f), functions)
}

// most reports whether no symbol has more than n arguments.
func most(l []syntax.Symbol, n int) bool {
	for _, s := range l {
		if s.Arity > n {
			return false
		}
	}
	return true
}
