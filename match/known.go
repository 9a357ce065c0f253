package match

import (
	"maps"
	"slices"

	"lyceum/api"
	"lyceum/subst"
	"lyceum/syntax"
)

// known is what is known of metavariables while a call lasts.
type known struct {
	forms map[string]api.Form
	terms map[string]api.Term
}

// know returns what a binding says.
func know(b Binding) known {
	k := known{map[string]api.Form{}, map[string]api.Term{}}
	for _, f := range b.Forms {
		k.forms[f.Name] = f.Form
	}
	for _, t := range b.Terms {
		k.terms[t.Name] = t.Term
	}
	return k
}

// binding returns what is known, in memory of its own.
func (k known) binding() Binding {
	var b Binding
	for _, name := range slices.Sorted(maps.Keys(k.forms)) {
		b.Forms = append(b.Forms, FormBind{name, syntax.Copy(k.forms[name])})
	}
	for _, name := range slices.Sorted(maps.Keys(k.terms)) {
		b.Terms = append(b.Terms, TermBind{name, subst.PutTerm(k.terms[name], nil)})
	}
	return b
}

// learn adds what metavariables stand for if the schemas match; it returns the index of the pair that does not match, and why.
func (k known) learn(l []Pair) (int, api.Errno) {
	at, errno := 0, api.OK
passes:
	for _, pass := range [...]func(place) api.Errno{k.compare, k.compareInstance} {
		for i, pair := range l {
			for p := range places(pair) {
				if errno = pass(p); errno != api.OK {
					at = i
					break passes
				}
			}
		}
	}
	return at, errno
}

// compare is the first pass: whether all places but those of an OpInst match.
func (k known) compare(p place) api.Errno {
	matches := true
	switch p.schema.Op {
	case api.OpInst:
	case api.OpMeta:
		matches = k.isForm(p)
	default:
		matches = p.sameSign() && slices.EqualFunc(p.schema.Args, p.form.Args, func(t, actual api.Term) bool {
			shown, ok := p.scope.term(actual)
			return ok && k.isTerm(subst.PutTerm(t, p.scope.owns()), shown)
		})
	}
	if !matches {
		return ErrMatch
	}
	return api.OK
}

// sameSign reports whether the schema and the formula are the same at a place, but for their Args and Sub.
func (p place) sameSign() bool {
	return p.schema.Op == p.form.Op && len(p.schema.Sub) == len(p.form.Sub) && (quantifier(p.schema) || p.schema.Name == p.form.Name)
}

// isForm reports whether the image of what is at a place can be that for which the metavariable there stands.
func (k known) isForm(p place) bool {
	shown, ok := p.scope.form(p.form)
	if !ok {
		return false
	}
	f, ok := k.forms[p.schema.Name]
	if !ok {
		k.forms[p.schema.Name] = shown
		return true
	}
	return alike(shown, f)
}

// isTerm reports whether a term of the formula's image can be that of the schema, with the placeholders for its variables.
func (k known) isTerm(t, shown api.Term) bool {
	if t.Var && termMeta(t.Name) {
		return k.stands(t.Name, shown)
	}
	return t.Var == shown.Var && t.Name == shown.Name && slices.EqualFunc(t.Args, shown.Args, k.isTerm)
}

// stands reports whether a metavariable can stand for a term; it does so from then on if it was not known.
func (k known) stands(name string, t api.Term) bool {
	if _, ok := k.terms[name]; !ok {
		k.terms[name] = t
	}
	return syntax.SameTerm(k.terms[name], t)
}

// compareInstance is the second pass: whether the places of an OpInst match.
func (k known) compareInstance(p place) api.Errno {
	if !instance(p.schema) {
		return api.OK
	}
	f, ok := k.forms[p.schema.Name]
	if !ok {
		return ErrLater
	}
	shown, ok := p.scope.form(p.form)
	if !ok || !k.isInstance(f, shown, placeholderOf(p.schema.Args[0].Name), p.schema.Args[1].Name) {
		return ErrMatch
	}
	return api.OK
}

// isInstance reports whether an image can be a formula with that for a placeholder for which a metavariable of terms stands.
func (k known) isInstance(f, shown api.Form, holder, meta string) bool {
	if !slices.Contains(subst.Free(f), holder) {
		return alike(shown, f)
	}
	t, ok := instead(f, shown, holder)
	return ok && k.stands(meta, t) && alikeWith(shown, f, holder, t)
}
