package match

import (
	"slices"

	"lyceum/api"
	"lyceum/subst"
	"lyceum/syntax"
)

// filling is what is put into a schema. What has to be known of the terms is found once, as a term may be long, and needed at many places.
type filling struct {
	known
	puts  []subst.One         // the terms of the metavariables that occur
	free  map[string][]string // their free variables
	nodes map[string]int      // their numbers of nodes
}

// outcome is what a part of a schema becomes, without its Sub: the names that are free there (but for the schema's own), its nodes, and whether all of it is known.
type outcome struct {
	free  []string
	nodes int
	known bool
}

// fillingOf returns what is put into a schema.
func fillingOf(schema api.Form, k known) filling {
	fl := filling{known: k, free: map[string][]string{}, nodes: map[string]int{}}
	for _, name := range Metas(schema) {
		if t, ok := k.terms[name]; ok {
			fl.puts = append(fl.puts, subst.One{Name: name, Term: t})
			fl.free[name] = subst.FreeTerm(t)
			fl.nodes[name] = nodesOf([]api.Term{t}, nil)
		}
	}
	return fl
}

// fault tells why a schema cannot be filled: something is not known, else something is left, else it becomes too long.
func (fl filling) fault(schema api.Form) api.Errno {
	known, closed, nodes := true, true, 0
	for p := range places(Pair{schema, schema}) {
		o := fl.outcome(p.schema)
		known = known && o.known
		closed = closed && p.scope.closes(o.free)
		nodes += o.nodes
	}
	switch {
	case !known:
		return api.ErrNone
	case !closed:
		return ErrScope
	case nodes > api.MaxNodes: // asked ahead, as what is too long may be too long to be made
		return api.ErrLong
	}
	return api.OK
}

// outcome returns what a part of a schema becomes.
func (fl filling) outcome(f api.Form) outcome {
	switch f.Op {
	case api.OpMeta:
		g, ok := fl.forms[f.Name]
		return outcome{subst.Free(g), syntax.Nodes(g), ok}
	case api.OpInst:
		return fl.instance(f)
	}
	o := outcome{nil, 1 + nodesOf(f.Args, fl.nodes), true}
	for _, name := range Metas(api.Form{Args: f.Args}) {
		_, ok := fl.nodes[name]
		o.known = o.known && ok
		o.free = append(o.free, fl.free[name]...)
	}
	return o
}

// instance returns what an OpInst becomes.
func (fl filling) instance(f api.Form) outcome {
	g, ok := fl.forms[f.Name]
	free := subst.Free(g)
	holder := placeholderOf(f.Args[0].Name)
	at := slices.Index(free, holder)
	if at < 0 {
		return outcome{free, syntax.Nodes(g), ok}
	}
	meta := f.Args[1].Name
	n, ok := fl.nodes[meta]
	return outcome{append(slices.Delete(free, at, at+1), fl.free[meta]...), formNodes(g, map[string]int{holder: n}), ok}
}

// formNodes is the number of nodes of a formula in which some variables become terms of so many nodes.
func formNodes(f api.Form, nodes map[string]int) int {
	n := 1 + nodesOf(f.Args, nodes)
	for _, part := range f.Sub {
		n += formNodes(part, nodes)
	}
	return n
}

// nodesOf is the number of nodes of terms in which some variables become terms of so many nodes.
func nodesOf(l []api.Term, nodes map[string]int) int {
	n := 0
	for _, t := range l {
		if more, ok := nodes[t.Name]; ok && t.Var {
			n += more
		} else {
			n += 1 + nodesOf(t.Args, nodes)
		}
	}
	return n
}

// form returns what a part of a schema becomes; placeholders stand for the variables of the quantifiers around it.
func (fl filling) form(f api.Form, s scope) api.Form {
	switch {
	case f.Op == api.OpMeta:
		return fl.forms[f.Name]
	case instance(f):
		return put(fl.forms[f.Name], placeholderOf(f.Args[0].Name), fl.terms[f.Args[1].Name])
	case quantifier(f):
		return bound(f, fl.form(f.Sub[0], s.within(f.Name, f.Name)))
	}
	l := append(s.owns(), fl.puts...)
	f.Args = changed(f.Args, func(t api.Term) api.Term { return subst.PutTerm(t, l) })
	f.Sub = changed(f.Sub, func(part api.Form) api.Form { return fl.form(part, s) })
	return f
}

// bound returns what a quantifier of a schema becomes, from what its Sub has become.
func bound(f, sub api.Form) api.Form {
	name := f.Name
	if free := subst.Free(sub); slices.Contains(free, name) {
		name = subst.Fresh(free)
	}
	return api.Form{Op: f.Op, Name: name, Sub: []api.Form{put(sub, placeholderOf(f.Name), variable(name))}}
}

// put returns a formula with a term put for a name. (Layer 3 does so for the names of variables alone, and its new names are not always these.)
func put(f api.Form, name string, t api.Term) api.Form {
	if !slices.Contains(subst.Free(f), name) {
		return f
	}
	if quantifier(f) {
		f = away(f, subst.FreeTerm(t))
	}
	f.Args = changed(f.Args, func(arg api.Term) api.Term { return subst.PutTerm(arg, []subst.One{{Name: name, Term: t}}) })
	f.Sub = changed(f.Sub, func(part api.Form) api.Form { return put(part, name, t) })
	return f
}

// away returns a quantifier whose own variable is none of those that are free in a term.
func away(f api.Form, inTerm []string) api.Form {
	if !slices.Contains(inTerm, f.Name) {
		return f
	}
	name := subst.Fresh(slices.Concat(subst.Free(f.Sub[0]), inTerm))
	return api.Form{Op: f.Op, Name: name, Sub: []api.Form{put(f.Sub[0], f.Name, variable(name))}}
}
