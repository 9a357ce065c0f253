package rule

import (
	"iter"
	"slices"

	"lyceum/api"
	"lyceum/match"
	"lyceum/subst"
	"lyceum/syntax"
)

// formulas yields all formulas of a step.
func formulas(concl api.Form, l []Got) iter.Seq[api.Form] {
	return func(yield func(api.Form) bool) {
		if !yield(concl) {
			return
		}
		for _, g := range l {
			if !g.each(yield) {
				return
			}
		}
	}
}

// each yields the formulas of a premise, and reports whether more are wanted.
func (g Got) each(yield func(api.Form) bool) bool {
	if !yield(g.Concl) {
		return false
	}
	for _, h := range g.Hyps {
		if h.Some && !yield(h.Form) {
			return false
		}
	}
	for _, f := range g.Rest {
		if !yield(f) {
			return false
		}
	}
	return true
}

// matched returns what a step matches with, or the fault because of which it does not.
func matched(r api.Rule, concl api.Form, l []Got) (match.Binding, Fault) {
	if len(l) != len(r.Prems) {
		return match.Binding{}, Fault{Kind: FaultPrems}
	}
	for i, p := range r.Prems {
		if len(l[i].Hyps) != len(p.Hyps) {
			return match.Binding{}, Fault{Kind: FaultPrems, Prem: i}
		}
	}
	pairs, faults := compared(r, concl, l)
	b, at, errno := match.Matches(pairs, match.Binding{})
	if errno != api.OK {
		return match.Binding{}, faults[at]
	}
	return b, Fault{}
}

// compared returns what a step is to match, in order, and for each pair the fault that it is if it does not.
func compared(r api.Rule, concl api.Form, l []Got) ([]match.Pair, []Fault) {
	var pairs []match.Pair
	var faults []Fault
	add := func(schema, f api.Form, prem, index int) {
		pairs = append(pairs, match.Pair{Schema: schema, Form: f})
		faults = append(faults, Fault{FaultMatch, prem, index})
	}
	for i, p := range r.Prems {
		add(p.Concl, l[i].Concl, i, 0)
	}
	for i, p := range r.Prems {
		for j, h := range l[i].Hyps {
			if h.Some {
				add(p.Hyps[j], h.Form, i, 1+j)
			}
		}
	}
	add(r.Concl, concl, len(r.Prems), 0)
	return pairs, faults
}

// condition is what a premise must not be: a kind of fault, and where that is; a negative number if it is nowhere.
type condition struct {
	kind uint8
	at   func() int
}

// violation returns the first fault of a step that matches; zero if there is none.
func violation(r api.Rule, concl api.Form, l []Got, b match.Binding) Fault {
	for i, p := range r.Prems {
		for _, c := range conditions(p, concl, l[i], b) {
			if at := c.at(); at >= 0 {
				return Fault{c.kind, i, at}
			}
		}
	}
	return Fault{}
}

// conditions returns the conditions of a premise, in the order in which their faults are told.
func conditions(p api.Prem, concl api.Form, g Got, b match.Binding) []condition {
	fresh, known := match.Term(b, p.Fresh)
	has := func(f api.Form) bool { return known && slices.Contains(subst.Free(f), fresh.Name) }
	return []condition{
		{FaultVar, func() int { return whole(known && !syntax.Variable(fresh.Name)) }},
		{FaultConcl, func() int { return whole(has(concl)) }},
		{FaultRest, func() int { return slices.IndexFunc(g.Rest, has) }},
		{FaultBound, func() int {
			return slices.IndexFunc(b.Forms, func(f match.FormBind) bool { return has(f.Form) })
		}},
		{FaultClosed, func() int { return whole(p.Closed && len(g.Rest) > 0) }},
	}
}

// whole is where something bad is that has no places: at 0, or nowhere.
func whole(bad bool) int {
	if bad {
		return 0
	}
	return -1
}
