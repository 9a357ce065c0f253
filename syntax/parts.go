package syntax

import (
	"cmp"
	"iter"
	"math"
	"slices"

	"lyceum/api"
)

// Nodes is the number of nodes.
func Nodes(f api.Form) int { return count(parts(f), math.MaxInt) + count(terms(f), math.MaxInt) }

// Depth is the depth.
func Depth(f api.Form) int { return 1 + max(deepest(f.Args, termDepth), deepest(f.Sub, Depth)) }

// Ops is the mask of the operators of all parts.
func Ops(f api.Form) uint32 {
	mask := uint32(0)
	for part := range parts(f) {
		mask |= 1 << part.Op // nothing if it is above 31: the bit is shifted out
	}
	return mask
}

// Parts is all parts of a formula.
func Parts(f api.Form) []api.Form {
	if !few(f, MaxParts) {
		return nil
	}
	var first []api.Form
	found := map[int][]api.Form{} // by their numbers of nodes: to compare each part with all others would take long in a deep formula
	for part := range parts(f) {
		n := Nodes(part)
		same := func(p api.Form) bool { return Same(p, part) }
		if !slices.ContainsFunc(found[n], same) {
			found[n] = append(found[n], part)
			first = append(first, Copy(part))
		}
	}
	return first
}

// Predicates is the predicates of a formula.
func Predicates(f api.Form) []Symbol {
	var l []Symbol
	for part := range parts(f) {
		if part.Op == api.OpAtom {
			l = append(l, Symbol{Name: part.Name, Arity: len(part.Args)})
		}
	}
	return inOrder(l)
}

// Functions is the functions of a formula.
func Functions(f api.Form) []Symbol {
	var l []Symbol
	for t := range terms(f) {
		if !t.Var {
			l = append(l, Symbol{Name: t.Name, Arity: len(t.Args)})
		}
	}
	return inOrder(l)
}

// parts yields all parts of a formula, in order.
func parts(f api.Form) iter.Seq[api.Form] {
	return func(yield func(api.Form) bool) { eachPart(f, yield) }
}

// terms yields the terms in all parts of a formula, in order, and each one ahead of its Args.
func terms(f api.Form) iter.Seq[api.Term] {
	return func(yield func(api.Term) bool) {
		for part := range parts(f) {
			if !eachTerm(part.Args, yield) {
				return
			}
		}
	}
}

// eachPart yields a formula and its parts, and reports whether more is wanted. It passes yield on, as a range in a range for each level would take the square of the time.
func eachPart(f api.Form, yield func(api.Form) bool) bool {
	if !yield(f) {
		return false
	}
	for _, part := range f.Sub {
		if !eachPart(part, yield) {
			return false
		}
	}
	return true
}

// eachTerm yields terms, each with the terms in it, and reports whether more is wanted.
func eachTerm(list []api.Term, yield func(api.Term) bool) bool {
	for _, t := range list {
		if !yield(t) || !eachTerm(t.Args, yield) {
			return false
		}
	}
	return true
}

// few reports whether a formula has at most so many nodes; it ends soon if it has many more.
func few(f api.Form, most int) bool {
	n := count(parts(f), most+1)
	return n <= most && n+count(terms(f), most+1-n) <= most
}

// count returns how many there are, but at most as many as are asked for.
func count[T any](all iter.Seq[T], most int) int {
	n := 0
	for range all {
		if n == most {
			break
		}
		n++
	}
	return n
}

// termDepth is the depth of a term.
func termDepth(t api.Term) int { return 1 + deepest(t.Args, termDepth) }

// deepest returns the greatest depth in a list; 0 if it is empty.
func deepest[T any](list []T, depth func(x T) int) int {
	greatest := 0
	for _, x := range list {
		greatest = max(greatest, depth(x))
	}
	return greatest
}

// inOrder returns symbols in their order, without repetitions.
func inOrder(l []Symbol) []Symbol {
	slices.SortFunc(l, func(a, b Symbol) int {
		return cmp.Or(cmp.Compare(a.Name, b.Name), cmp.Compare(a.Arity, b.Arity))
	})
	return slices.Compact(l)
}
