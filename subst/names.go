package subst

import (
	"iter"
	"maps"
	"slices"
	"strconv"

	"lyceum/api"
)

// names is a set of names.
type names map[string]bool

// FreeTerm is the free variables of a term.
func FreeTerm(t api.Term) []string { return collect(variables(t)).inOrder() }

// Free is the free variables of a formula.
func Free(f api.Form) []string { return collect(free(f)).inOrder() }

// Bound is the names of all quantifiers of a formula.
func Bound(f api.Form) []string { return collect(binders(f)).inOrder() }

// Fresh is the least name that is not taken.
func Fresh(taken []string) string { return least(collect(slices.Values(taken))) }

// collect returns the set of the names that are yielded.
func collect(all iter.Seq[string]) names {
	set := names{}
	for name := range all {
		set[name] = true
	}
	return set
}

// inOrder returns the names of a set in increasing order.
func (n names) inOrder() []string { return slices.Sorted(maps.Keys(n)) }

// least returns the least of x1, x2, x3, .. that is in none of some sets.
func least(taken ...names) string {
number:
	for i := 1; ; i++ {
		name := "x" + strconv.Itoa(i)
		for _, set := range taken {
			if set[name] {
				continue number
			}
		}
		return name
	}
}

// variables yields the free variables of a term, as often as they are there.
func variables(t api.Term) iter.Seq[string] {
	return func(yield func(string) bool) { eachVariable(t, yield) }
}

// free yields the free variables of a formula, as often as they are there.
func free(f api.Form) iter.Seq[string] {
	return func(yield func(string) bool) {
		around := map[string]int{}
		eachFree(f, around, func(name string) bool { return around[name] > 0 || yield(name) })
	}
}

// binders yields the names of the quantifiers of a formula, as often as they are there.
func binders(f api.Form) iter.Seq[string] {
	return func(yield func(string) bool) { eachBinder(f, yield) }
}

// eachVariable yields the free variables of a term, and reports whether more are wanted.
func eachVariable(t api.Term, yield func(string) bool) bool {
	if t.Var && !yield(t.Name) {
		return false
	}
	for _, arg := range t.Args {
		if !eachVariable(arg, yield) {
			return false
		}
	}
	return true
}

// eachFree yields the variables of a formula, bound ones, too, and reports whether more are wanted; around tells meanwhile how many quantifiers have a name. (A list of them would make it slow where many are nested.)
func eachFree(f api.Form, around map[string]int, yield func(string) bool) bool {
	for _, t := range f.Args {
		if !eachVariable(t, yield) {
			return false
		}
	}
	if quantifier(f) {
		around[f.Name]++
	}
	for _, part := range f.Sub {
		if !eachFree(part, around, yield) {
			return false
		}
	}
	if quantifier(f) {
		around[f.Name]--
	}
	return true
}

// eachBinder yields the names of the quantifiers of a formula, and reports whether more are wanted.
func eachBinder(f api.Form, yield func(string) bool) bool {
	if quantifier(f) && !yield(f.Name) {
		return false
	}
	for _, part := range f.Sub {
		if !eachBinder(part, yield) {
			return false
		}
	}
	return true
}
