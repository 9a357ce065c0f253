package rule

import (
	"slices"
	"strings"

	"lyceum/api"
	"lyceum/match"
	"lyceum/subst"
)

// withFresh returns a binding in which a fresh name is known: if it was not, it becomes a variable that is nowhere else.
func withFresh(b match.Binding, meta string, concl api.Form, taken []string) match.Binding {
	if _, known := match.Term(b, meta); known || meta == "" {
		return b
	}
	names := slices.Concat(taken, subst.Free(concl))
	for _, f := range b.Forms {
		names = append(names, subst.Free(f.Form)...)
	}
	for _, t := range b.Terms {
		names = append(names, subst.FreeTerm(t.Term)...)
	}
	at, _ := slices.BinarySearchFunc(b.Terms, meta, func(t match.TermBind, name string) int { return strings.Compare(t.Name, name) })
	fresh := match.TermBind{Name: meta, Term: api.Term{Var: true, Name: subst.Fresh(names)}}
	b.Terms = slices.Insert(b.Terms, at, fresh) // the binding is the one that matching has made: nobody else has it
	return b
}

// fill returns a premise with what its metavariables stand for.
func fill(p api.Prem, b match.Binding) (api.Prem, api.Errno) {
	concl, errno := match.Fill(p.Concl, b)
	if errno != api.OK {
		return api.Prem{}, errno
	}
	fresh, _ := match.Term(b, p.Fresh)
	filled := api.Prem{Concl: concl, Fresh: fresh.Name, Closed: p.Closed}
	for _, hyp := range p.Hyps {
		f, errno := match.Fill(hyp, b)
		if errno != api.OK {
			return api.Prem{}, errno
		}
		filled.Hyps = append(filled.Hyps, f)
	}
	return filled, api.OK
}
