package syntax

import (
	"cmp"

	"lyceum/api"
)

// Same reports whether two formulas are equal.
func Same(a, b api.Form) bool { return Compare(a, b) == 0 }

// SameTerm reports whether two terms are equal.
func SameTerm(a, b api.Term) bool { return compareTerms(a, b) == 0 }

// Compare tells which one of two formulas comes ahead.
func Compare(a, b api.Form) int {
	if c := cmp.Compare(a.Op, b.Op); c != 0 {
		return c
	}
	if c := cmp.Compare(a.Name, b.Name); c != 0 {
		return c
	}
	if c := compareLists(a.Args, b.Args, compareTerms); c != 0 {
		return c
	}
	return compareLists(a.Sub, b.Sub, Compare)
}

// compareTerms tells which one of two terms comes ahead.
func compareTerms(a, b api.Term) int {
	if a.Var != b.Var {
		if a.Var {
			return -1
		}
		return 1
	}
	if c := cmp.Compare(a.Name, b.Name); c != 0 {
		return c
	}
	return compareLists(a.Args, b.Args, compareTerms)
}

// compareLists tells which one of two lists comes ahead: the shorter one, or that with the lesser one of the first elements that differ.
func compareLists[T any](a, b []T, compare func(a, b T) int) int {
	if c := cmp.Compare(len(a), len(b)); c != 0 {
		return c
	}
	for i := range a {
		if c := compare(a[i], b[i]); c != 0 {
			return c
		}
	}
	return 0
}
