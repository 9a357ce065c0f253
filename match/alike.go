package match

import (
	"slices"

	"lyceum/api"
	"lyceum/subst"
)

// alike reports whether two formulas with placeholders are equal up to bound names.
func alike(a, b api.Form) bool {
	l := standIns(a, b)
	return subst.Alpha(image(a, l), image(b, l))
}

// alikeWith reports whether a formula is equal up to bound names to another one with a term put for a placeholder.
func alikeWith(a, b api.Form, holder string, t api.Term) bool {
	l := standIns(a, b, api.Form{Args: []api.Term{t}})
	at := slices.IndexFunc(l, func(o subst.One) bool { return o.Name == holder })
	put, errno := subst.Put(image(b, l), l[at].Term.Name, subst.PutTerm(t, l))
	return errno == api.OK && subst.Alpha(image(a, l), put) // what has become too long is not equal to what is right
}

// standIns returns variables to put for all placeholders in some formulas, since layer 3 takes right formulas alone. None of these variables is there already.
func standIns(all ...api.Form) []subst.One {
	var taken []string
	for _, f := range all {
		taken = append(taken, subst.Free(f)...)
		taken = append(taken, subst.Bound(f)...)
	}
	slices.Sort(taken)
	var l []subst.One
	for _, name := range slices.Compact(taken) {
		if placeholder(name) {
			x := subst.Fresh(taken)
			taken = append(taken, x)
			l = append(l, subst.One{Name: name, Term: variable(x)})
		}
	}
	return l
}

// instead returns the term that another formula has at the first place of a placeholder in a formula, and whether it has one there. (If a variable of that term is bound in the other formula, this is no term to put, and alikeWith finds that.)
func instead(f, other api.Form, holder string) (api.Term, bool) {
	inTerm := func(t api.Term) bool { return slices.Contains(subst.FreeTerm(t), holder) }
	inForm := func(f api.Form) bool { return slices.Contains(subst.Free(f), holder) }
	i := slices.IndexFunc(f.Args, inTerm)
	for ; i < 0; i = slices.IndexFunc(f.Args, inTerm) {
		part := slices.IndexFunc(f.Sub, inForm)
		if part >= len(other.Sub) {
			return api.Term{}, false
		}
		f, other = f.Sub[part], other.Sub[part]
	}
	args, others := f.Args, other.Args
	for i < len(others) && !args[i].Var {
		args, others = args[i].Args, others[i].Args
		i = slices.IndexFunc(args, inTerm)
	}
	if i >= len(others) {
		return api.Term{}, false
	}
	return others[i], true
}
