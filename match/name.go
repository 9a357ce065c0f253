package match

import (
	"slices"

	"lyceum/api"
	"lyceum/subst"
	"lyceum/syntax"
)

// mark is what metavariables and placeholders begin with.
const mark = '?'

// formMeta reports whether a string is a metavariable of formulas.
func formMeta(s string) bool { return syntax.Meta(s) && syntax.Predicate(s[1:]) }

// termMeta reports whether a string is a metavariable of terms.
func termMeta(s string) bool { return syntax.Meta(s) && syntax.Function(s[1:]) }

// placeholder reports whether a string is a placeholder.
func placeholder(s string) bool { return s != "" && s[0] == mark && syntax.Variable(s[1:]) }

// placeholderOf returns the placeholder of a variable.
func placeholderOf(x string) string { return string(mark) + x }

// variable returns the term that is a variable, a metavariable or a placeholder.
func variable(name string) api.Term { return api.Term{Var: true, Name: name} }

// quantifier reports whether a formula is a quantifier.
func quantifier(f api.Form) bool { return f.Op == api.OpAll || f.Op == api.OpSome }

// instance reports whether a part of a schema has a term in the place of a variable.
func instance(f api.Form) bool { return f.Op == api.OpInst }

// collectMetas adds the metavariables of a formula to a set.
func collectMetas(f api.Form, set map[string]bool) {
	add := func(name string) {
		if syntax.Meta(name) {
			set[name] = true
		}
	}
	if f.Op == api.OpMeta || instance(f) {
		add(f.Name)
	}
	for _, t := range f.Args {
		for _, name := range subst.FreeTerm(t) {
			add(name)
		}
	}
	for _, part := range f.Sub {
		collectMetas(part, set)
	}
}

// changed returns a new list of what a function makes of the elements of a list.
func changed[T any](list []T, change func(x T) T) []T {
	l := slices.Clone(list)
	for i, x := range l {
		l[i] = change(x)
	}
	return l
}

// changedArgs returns a formula with what a function makes of its terms, in memory of its own.
func changedArgs(f api.Form, change func(t api.Term) api.Term) api.Form {
	f.Args = changed(f.Args, change)
	f.Sub = changed(f.Sub, func(part api.Form) api.Form { return changedArgs(part, change) })
	return f
}

// rightTerm reports whether a term is right, if placeholders count as variables.
func rightTerm(t api.Term) bool { return syntax.Term(unmarked(t)) }

// rightForm reports whether a formula is right, if placeholders count as variables in its terms.
func rightForm(f api.Form) bool { return syntax.Right(changedArgs(f, unmarked)) }

// unmarked returns a term with the variable itself instead of each placeholder. (Their Args stay, as they make a term wrong.)
func unmarked(t api.Term) api.Term {
	if t.Var && placeholder(t.Name) {
		t.Name = t.Name[1:]
	}
	t.Args = changed(t.Args, unmarked)
	return t
}
