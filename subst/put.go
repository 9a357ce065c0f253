package subst

import (
	"cmp"
	"slices"

	"lyceum/api"
	"lyceum/syntax"
)

// bindings are what is put for variables, in the order of their Names; of those with the same Name the first one counts.
type bindings []One

// PutTerm is a term with terms put for variables.
func PutTerm(u api.Term, l []One) api.Term { return sorted(l).term(u) }

// Put is a formula with a term put for a variable.
func Put(f api.Form, x string, t api.Term) (api.Form, api.Errno) {
	return Puts(f, []One{{Name: x, Term: t}})
}

// Puts is a formula with terms put for variables.
func Puts(f api.Form, l []One) (api.Form, api.Errno) {
	b := sorted(l)
	if !syntax.Right(f) || !b.right() {
		return api.Form{}, api.ErrArg
	}
	if !b.fit(f) { // asked ahead, as what is too long may be too long to be made
		return api.Form{}, api.ErrLong
	}
	g := b.form(f)
	if syntax.Depth(g) > api.MaxDepth {
		return api.Form{}, api.ErrLong
	}
	return g, api.OK
}

// sorted returns a list as bindings.
func sorted(l []One) bindings {
	b := slices.Clone(l)
	slices.SortStableFunc(b, func(x, y One) int { return cmp.Compare(x.Name, y.Name) })
	return b
}

// find returns the index of the binding of a name, and whether there is one; if not, the index where it would be.
func (l bindings) find(name string) (int, bool) {
	return slices.BinarySearchFunc(l, name, func(o One, name string) int { return cmp.Compare(o.Name, name) })
}

// with returns the bindings and one more, which counts instead of those with the same Name.
func (l bindings) with(o One) bindings {
	i, _ := l.find(o.Name)
	return slices.Insert(slices.Clone(l), i, o)
}

// right reports whether the Names are variables, none of them there twice, and the terms right.
func (l bindings) right() bool {
	for i, o := range l {
		if !syntax.Variable(o.Name) || !syntax.Term(o.Term) || i > 0 && l[i-1].Name == o.Name {
			return false
		}
	}
	return true
}

// fit reports whether a right formula has at most MaxNodes nodes when the terms have been put into it.
func (l bindings) fit(f api.Form) bool {
	n := syntax.Nodes(f)
	for name := range free(f) {
		if i, found := l.find(name); found {
			n += nodes(l[i].Term) - 1
		}
		if n > api.MaxNodes { // at once, or a long term would be gone through for each of its places
			return false
		}
	}
	return true
}

// nodes is the number of nodes of a term.
func nodes(t api.Term) int { return syntax.Nodes(api.Form{Args: []api.Term{t}}) - 1 }

// form returns a right formula with the terms put into it.
func (l bindings) form(f api.Form) api.Form {
	if quantifier(f) {
		f.Name, l = l.inside(f.Name, f.Sub[0])
	}
	f.Args = changed(f.Args, l.term)
	f.Sub = changed(f.Sub, l.form)
	return f
}

// inside returns the new name of a quantifier with the name y, and what is put into its Sub.
func (l bindings) inside(y string, sub api.Form) (string, bindings) {
	inSub := collect(free(sub))
	taken := []names{inSub}
	captured := false
	var counting bindings
	for _, name := range inSub.inOrder() {
		i, found := l.find(name)
		if !found || name == y {
			continue
		}
		inTerm := collect(variables(l[i].Term))
		captured = captured || inTerm[y]
		taken = append(taken, inTerm)
		counting = append(counting, l[i])
	}
	if !captured {
		return y, counting
	}
	name := least(taken...)
	return name, counting.with(One{Name: y, Term: variable(name)})
}

// term returns a term with the terms put into it, in memory of its own.
func (l bindings) term(t api.Term) api.Term {
	if i, found := l.find(t.Name); t.Var && found {
		t, l = l[i].Term, nil // nothing is put into what has been put
	}
	t.Args = changed(t.Args, l.term)
	return t
}

// changed returns a new list of what a function makes of the elements of a list.
func changed[T any](list []T, change func(x T) T) []T {
	l := slices.Clone(list)
	for i, x := range l {
		l[i] = change(x)
	}
	return l
}
