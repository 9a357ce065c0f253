package match

import (
	"iter"
	"slices"

	"lyceum/api"
	"lyceum/subst"
)

// binder is a quantifier around a place: its own variable in the schema, and its actual variable in the formula.
type binder struct{ own, actual string }

// scope is the quantifiers around a place, the innermost one first.
type scope []binder

// place is a place of a schema, the part of a formula there, and the scope of both.
type place struct {
	schema, form api.Form
	scope        scope
}

// places yields the places of a schema in the order of its parts. Whoever ranges ends it where the formula has other parts than the schema.
func places(p Pair) iter.Seq[place] {
	return func(yield func(place) bool) { eachPlace(place{schema: p.Schema, form: p.Form}, yield) }
}

// eachPlace yields a place and those in it, and reports whether more are wanted.
func eachPlace(p place, yield func(place) bool) bool {
	if !yield(p) {
		return false
	}
	inner := p.scope
	if quantifier(p.schema) {
		inner = inner.within(p.schema.Name, p.form.Name)
	}
	for i, part := range p.schema.Sub {
		if !eachPlace(place{part, p.form.Sub[i], inner}, yield) {
			return false
		}
	}
	return true
}

// within returns the scope of what is in one more quantifier.
func (s scope) within(own, actual string) scope {
	return append(scope{{own, actual}}, s...)
}

// has reports whether a variable of the schema is in the scope.
func (s scope) has(own string) bool {
	return slices.ContainsFunc(s, func(b binder) bool { return b.own == own })
}

// shows reports whether what has these free variables has an image: none of them belongs to a quantifier whose placeholder belongs to one farther in.
func (s scope) shows(free []string) bool {
	for _, name := range free {
		i := slices.IndexFunc(s, func(b binder) bool { return b.actual == name })
		if i >= 0 && s[:i].has(s[i].own) {
			return false
		}
	}
	return true
}

// closes reports whether all placeholders among some names are those of quantifiers of the scope.
func (s scope) closes(names []string) bool {
	return !slices.ContainsFunc(names, func(name string) bool { return placeholder(name) && !s.has(name[1:]) })
}

// form returns the image of a part of the formula, and whether there is one.
func (s scope) form(f api.Form) (api.Form, bool) {
	if !s.shows(subst.Free(f)) {
		return api.Form{}, false
	}
	return image(f, s.actuals()), true
}

// term returns the image of a term of the formula, and whether there is one.
func (s scope) term(t api.Term) (api.Term, bool) {
	if !s.shows(subst.FreeTerm(t)) {
		return api.Term{}, false
	}
	return subst.PutTerm(t, s.actuals()), true
}

// actuals returns the placeholders to put for the actual variables. That of the innermost quantifier comes first, which makes it the one that counts.
func (s scope) actuals() []subst.One {
	var l []subst.One
	for _, b := range s {
		l = append(l, subst.One{Name: b.actual, Term: variable(placeholderOf(b.own))})
	}
	return l
}

// owns returns the placeholders to put for the schema's variables.
func (s scope) owns() []subst.One {
	var l []subst.One
	for _, b := range s {
		l = append(l, subst.One{Name: b.own, Term: variable(placeholderOf(b.own))})
	}
	return l
}

// image returns a formula with terms put for its free variables that are no variables of quantifiers, so that none is bound there.
func image(f api.Form, l []subst.One) api.Form {
	if quantifier(f) {
		l = append([]subst.One{{Name: f.Name, Term: variable(f.Name)}}, l...)
	}
	f.Args = changed(f.Args, func(t api.Term) api.Term { return subst.PutTerm(t, l) })
	f.Sub = changed(f.Sub, func(part api.Form) api.Form { return image(part, l) })
	return f
}
