package subst

import (
	"slices"

	"lyceum/api"
	"lyceum/syntax"
)

// scope is the names of the quantifiers around a place, the outermost one first.
type scope []string

// scopes are those of the same place in two formulas; they have equal lengths.
type scopes struct{ a, b scope }

// Alpha reports whether two formulas are equal up to bound names.
func Alpha(a, b api.Form) bool {
	return syntax.Right(a) && syntax.Right(b) && scopes{}.forms(a, b)
}

// Normal is the normal form of a formula.
func Normal(f api.Form) (api.Form, api.Errno) {
	if !syntax.Right(f) {
		return api.Form{}, api.ErrArg
	}
	return bindings(nil).normal(f, collect(free(f))), api.OK
}

// binder returns the index of the quantifier that binds a variable; -1 if it is free.
func (s scope) binder(name string) int {
	for i, bound := range slices.Backward(s) {
		if bound == name {
			return i
		}
	}
	return -1
}

// forms reports whether two right formulas are equal up to bound names.
func (s scopes) forms(f, g api.Form) bool {
	if f.Op != g.Op {
		return false
	}
	if quantifier(f) {
		s = scopes{append(s.a, f.Name), append(s.b, g.Name)}
	} else if f.Name != g.Name {
		return false
	}
	return slices.EqualFunc(f.Args, g.Args, s.terms) && slices.EqualFunc(f.Sub, g.Sub, s.forms)
}

// terms reports whether two right terms are equal, but for bound variables, which have to be bound at the same places.
func (s scopes) terms(t, u api.Term) bool {
	if t.Var != u.Var {
		return false
	}
	if t.Var {
		i, j := s.a.binder(t.Name), s.b.binder(u.Name)
		return i == j && (i >= 0 || t.Name == u.Name)
	}
	return t.Name == u.Name && slices.EqualFunc(t.Args, u.Args, s.terms)
}

// normal returns a part of a normal form: the bindings put the new names of the quantifiers around it for the old ones; taken are these new names, and what is free in the whole formula.
func (l bindings) normal(f api.Form, taken names) api.Form {
	if quantifier(f) {
		name := least(taken)
		l = l.with(One{Name: f.Name, Term: variable(name)})
		f.Name = name
		taken[name] = true
		defer delete(taken, name) // quantifiers beside this one may have it, too
	}
	f.Args = changed(f.Args, l.term)
	f.Sub = changed(f.Sub, func(part api.Form) api.Form { return l.normal(part, taken) })
	return f
}
