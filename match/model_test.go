package match

import (
	"slices"
	"strconv"
	"strings"
	"testing"

	"lyceum/api"
	"lyceum/subst"
	"lyceum/syntax"
)

// model_test.go: a second way to tell what matches, in which variables that are bound have the places of their quantifiers instead of names, and what metavariables stand for is guessed.

// tree is a formula or a term. A variable that is bound has the label # and the place of its quantifier.
type tree struct {
	label string
	kids  []tree
}

// guess is what metavariables stand for.
type guess map[string]tree

// spot is a place of a schema of some pair, that is compared in the first pass or in the second one.
type spot struct {
	pair         int
	place        string
	schema, form api.Form
	around       []around
	second       bool
}

// around is a quantifier around a place: its place, and its names in the schema and in the formula.
type around struct{ place, own, actual string }

func (t tree) text() string {
	var l []string
	for _, kid := range t.kids {
		l = append(l, kid.text())
	}
	return t.label + "(" + strings.Join(l, ",") + ")"
}

// treeOf returns the tree of a formula at a place within these quantifiers.
func treeOf(f api.Form, place string, l []around) tree {
	t := tree{label: strconv.Itoa(int(f.Op)) + f.Name}
	if quantifier(f) {
		t.label = strconv.Itoa(int(f.Op))
		l = append(slices.Clone(l), around{place: place, actual: f.Name})
	}
	for _, u := range f.Args {
		t.kids = append(t.kids, termTree(u, l))
	}
	for i, part := range f.Sub {
		t.kids = append(t.kids, treeOf(part, place+strconv.Itoa(i), l))
	}
	return t
}

func termTree(u api.Term, l []around) tree {
	if !u.Var {
		t := tree{label: u.Name}
		for _, arg := range u.Args {
			t.kids = append(t.kids, termTree(arg, l))
		}
		return t
	}
	for _, q := range slices.Backward(l) {
		if q.actual == u.Name {
			return tree{label: "#" + q.place}
		}
	}
	return tree{label: "v" + u.Name}
}

// put returns a tree with another one instead of all leaves with a label.
func (t tree) put(label string, other tree) tree {
	if t.label == label {
		return other
	}
	t.kids = slices.Clone(t.kids)
	for i, kid := range t.kids {
		t.kids[i] = kid.put(label, other)
	}
	return t
}

func (t tree) has(label string) bool {
	return t.label == label || slices.ContainsFunc(t.kids, func(kid tree) bool { return kid.has(label) })
}

// spots returns what is compared, in order.
func spots(l []Pair) []spot {
	var first, second []spot
	var walk func(s spot)
	walk = func(s spot) {
		if s.second = s.schema.Op == api.OpInst; s.second {
			second = append(second, s)
			return
		}
		first = append(first, s)
		if quantifier(s.schema) {
			s.around = append(slices.Clone(s.around), around{s.place, s.schema.Name, s.form.Name})
		}
		for i, part := range s.schema.Sub {
			if i < len(s.form.Sub) {
				walk(spot{pair: s.pair, place: s.place + strconv.Itoa(i), schema: part, form: s.form.Sub[i], around: s.around})
			}
		}
	}
	for i, p := range l {
		walk(spot{pair: i, schema: p.Schema, form: p.Form})
	}
	return append(first, second...)
}

// image returns the image of a tree of the formula at a spot, and whether there is one.
func (s spot) image(t tree) (tree, bool) {
	for i, q := range s.around {
		hidden := slices.ContainsFunc(s.around[i+1:], func(r around) bool { return r.own == q.own })
		if hidden && t.has("#"+q.place) {
			return tree{}, false
		}
	}
	for _, q := range s.around {
		t = t.put("#"+q.place, tree{label: "v?" + q.own})
	}
	return t.moved(s.place), true
}

// moved returns a tree whose places begin behind another one.
func (t tree) moved(place string) tree {
	if rest, ok := strings.CutPrefix(t.label, "#"); ok {
		t.label = "#" + strings.TrimPrefix(rest, place)
	}
	t.kids = slices.Clone(t.kids)
	for i, kid := range t.kids {
		t.kids[i] = kid.moved(place)
	}
	return t
}

// formImage returns the image of the formula at a spot.
func (s spot) formImage() (tree, bool) { return s.image(treeOf(s.form, s.place, s.around)) }

// matches reports whether a spot matches with what is guessed.
func (s spot) matches(g guess) bool {
	switch s.schema.Op {
	case api.OpMeta, api.OpInst:
		want, known := g[s.schema.Name]
		got, ok := s.formImage()
		if !known || !ok {
			return false
		}
		if s.schema.Op == api.OpInst && want.has("v?"+s.schema.Args[0].Name) {
			u, known := g[s.schema.Args[1].Name]
			if !known {
				return false
			}
			want = want.put("v?"+s.schema.Args[0].Name, u)
		}
		return got.text() == want.text()
	}
	if s.schema.Op != s.form.Op || len(s.schema.Args) != len(s.form.Args) || len(s.schema.Sub) != len(s.form.Sub) {
		return false
	}
	if !quantifier(s.schema) && s.schema.Name != s.form.Name {
		return false
	}
	for i, u := range s.schema.Args {
		got, ok := s.image(termTree(s.form.Args[i], s.around))
		if !ok || got.text() != s.wanted(u, g) {
			return false
		}
	}
	return true
}

// wanted returns the text of the image that a term of the schema wants.
func (s spot) wanted(u api.Term, g guess) string {
	var own []around
	for _, q := range s.around {
		own = append(own, around{place: "?" + q.own, actual: q.own})
	}
	want := termTree(u, own)
	for _, q := range s.around {
		want = want.put("#?"+q.own, tree{label: "v?" + q.own})
	}
	for _, name := range Metas(s.schema) {
		u, ok := g[name]
		if !ok {
			return "?"
		}
		want = want.put("v"+name, u)
	}
	return want.text()
}

// guesses returns what each metavariable of pairs might stand for, if it is not known.
func guesses(l []Pair, b Binding) map[string][]tree {
	all := map[string][]tree{}
	for _, s := range spots(l) {
		if t, ok := s.formImage(); ok && s.schema.Op == api.OpMeta {
			all[s.schema.Name] = append(all[s.schema.Name], t)
		}
		for _, name := range Metas(s.schema) {
			if termMeta(name) {
				all[name] = append(all[name], s.terms()...)
			}
		}
	}
	for name := range all {
		all[name] = different(all[name])
	}
	for _, f := range b.Forms {
		all[f.Name] = []tree{treeOf(f.Form, "", nil)}
	}
	for _, u := range b.Terms {
		all[u.Name] = []tree{termTree(u.Term, nil)}
	}
	return all
}

func different(l []tree) []tree {
	slices.SortFunc(l, func(t, u tree) int { return strings.Compare(t.text(), u.text()) })
	return slices.CompactFunc(l, func(t, u tree) bool { return t.text() == u.text() })
}

// terms returns the images of all terms of the formula at a spot in which nothing is bound.
func (s spot) terms() []tree {
	var l []tree
	var add func(u api.Term, inner []around)
	add = func(u api.Term, inner []around) {
		if t, ok := s.image(termTree(u, inner)); ok && !strings.Contains(t.text(), "#") {
			l = append(l, t)
		}
		for _, arg := range u.Args {
			add(arg, inner)
		}
	}
	var walk func(f api.Form, place string, inner []around)
	walk = func(f api.Form, place string, inner []around) {
		for _, u := range f.Args {
			add(u, inner)
		}
		if quantifier(f) {
			inner = append(slices.Clone(inner), around{place: place, actual: f.Name})
		}
		for i, part := range f.Sub {
			walk(part, place+strconv.Itoa(i), inner)
		}
	}
	walk(s.form, s.place, s.around)
	return l
}

// farthest returns how many spots match, one behind the other, at best.
func farthest(l []spot, all map[string][]tree, names []string, g guess) int {
	if len(names) == 0 {
		for i, s := range l {
			if !s.matches(g) {
				return i
			}
		}
		return len(l)
	}
	best := 0
	for _, t := range all[names[0]] {
		g[names[0]] = t
		best = max(best, farthest(l, all, names[1:], g))
		delete(g, names[0])
	}
	if len(all[names[0]]) == 0 {
		best = farthest(l, all, names[1:], g)
	}
	return best
}

// modelErrno returns the index and the error of pairs.
func modelErrno(l []Pair, b Binding) (int, api.Errno) {
	var names []string
	for _, p := range l {
		names = append(names, Metas(p.Schema)...)
	}
	slices.Sort(names)
	names = slices.Compact(names)
	places, all := spots(l), guesses(l, b)
	n := farthest(places, all, names, guess{})
	if n == len(places) {
		return 0, api.OK
	}
	_, given := Form(b, places[n].schema.Name)
	sameMeta := func(s spot) bool { return s.schema.Op == api.OpMeta && s.schema.Name == places[n].schema.Name }
	if places[n].second && !given && !slices.ContainsFunc(places, sameMeta) {
		return places[n].pair, ErrLater
	}
	return places[n].pair, ErrMatch
}

// modelNames returns the metavariables that are known in the end, if pairs match with a binding.
func modelNames(l []Pair, b, found Binding) []string {
	var names []string
	for _, f := range b.Forms {
		names = append(names, f.Name)
	}
	for _, u := range b.Terms {
		names = append(names, u.Name)
	}
	for _, s := range spots(l) {
		switch s.schema.Op {
		case api.OpInst:
			f, _ := Form(found, s.schema.Name)
			if treeOf(f, "", nil).has("v?" + s.schema.Args[0].Name) {
				names = append(names, s.schema.Args[1].Name)
			}
		default:
			names = append(names, Metas(api.Form{Op: s.schema.Op, Name: s.schema.Name, Args: s.schema.Args})...)
		}
	}
	slices.Sort(names)
	return slices.Compact(names)
}

// namesOf returns the names of a binding, in order.
func namesOf(b Binding) []string {
	var names []string
	for _, f := range b.Forms {
		names = append(names, f.Name)
	}
	for _, u := range b.Terms {
		names = append(names, u.Name)
	}
	slices.Sort(names)
	return names
}

// checkFound reports if what has been found is not what has to be: what was known, and for the others, what is there at their first places.
func checkFound(t *testing.T, l []Pair, b, found Binding) {
	t.Helper()
	g := guess{}
	for _, f := range found.Forms {
		g[f.Name] = treeOf(f.Form, "", nil)
	}
	for _, u := range found.Terms {
		g[u.Name] = termTree(u.Term, nil)
	}
	seen := map[string]bool{}
	for _, s := range spots(l) {
		if !s.matches(g) {
			t.Fatalf("%s with %s: %s does not match %s", showPairs(l), showBinding(found), show(s.schema), show(s.form))
		}
		if s.schema.Op != api.OpMeta || seen[s.schema.Name] {
			continue
		}
		seen[s.schema.Name] = true
		want, given := Form(b, s.schema.Name)
		if !given {
			want = named(s.form, s.around, nil)
		}
		if f, _ := Form(found, s.schema.Name); !syntax.Same(f, want) {
			t.Fatalf("%s with %s: %s stands for %s", showPairs(l), showBinding(b), s.schema.Name, show(f))
		}
	}
	if !Valid(found) || !slices.Equal(namesOf(found), modelNames(l, b, found)) {
		t.Fatalf("%s with %s: %s is found", showPairs(l), showBinding(b), showBinding(found))
	}
	for _, f := range b.Forms {
		if g, _ := Form(found, f.Name); !syntax.Same(f.Form, g) {
			t.Fatalf("%s has become %s", show(f.Form), show(g))
		}
	}
}

// named returns a formula with placeholders for what quantifiers around it bind.
func named(f api.Form, l []around, inner []string) api.Form {
	if quantifier(f) {
		inner = append(slices.Clone(inner), f.Name)
	}
	f.Args = changedTerms(f.Args, func(u api.Term) api.Term {
		if !u.Var || slices.Contains(inner, u.Name) {
			return u
		}
		for _, q := range slices.Backward(l) {
			if q.actual == u.Name {
				return variable("?" + q.own)
			}
		}
		return u
	})
	var sub []api.Form
	for _, part := range f.Sub {
		sub = append(sub, named(part, l, inner))
	}
	f.Sub = sub
	return f
}

// P7.2, P7.4: drawn pairs match, or do not, as the model says; what has been filled does.
func TestMatchesModel(t *testing.T) {
	ok, not, later := 0, 0, 0
	for n := range uint64(12000) {
		d := fixed(n)
		whole := d.binding("x", "y", "?x", "?y")
		var l []Pair
		for range 1 + d.IntN(2) {
			schema := d.schema(4, d.anyMeta, []string{"x", "y", "?s", "?t"})
			f, errno := Fill(schema, whole)
			if errno != api.OK || d.IntN(4) == 0 {
				f = d.near(schema)
			}
			l = append(l, Pair{schema, f})
		}
		b := d.part(whole)
		found, at, errno := Matches(l, b)
		wantAt, want := modelErrno(l, b)
		if errno != want || at != wantAt || errno != api.OK && !empty(found) {
			t.Fatalf("%d: %s with %s: %d %d, not %d %d", n, showPairs(l), showBinding(b), errno, at, want, wantAt)
		}
		switch errno {
		case api.OK:
			ok++
			checkFound(t, l, b, found)
		case ErrMatch:
			not++
		default:
			later++
		}
	}
	checkMany(t, "pairs match", ok, 2000)
	checkMany(t, "pairs do not match", not, 2000)
	checkMany(t, "not known yet", later, 1000)
}

// near draws a formula that has parts where a schema has them.
func (d draws) near(schema api.Form) api.Form {
	if d.IntN(40) == 0 || schema.Op == api.OpMeta || schema.Op == api.OpInst {
		return d.form(3, "x", "y", "x1")
	}
	if quantifier(schema) {
		schema.Name = d.of("x", "y", "x1")
	}
	schema.Args = changedTerms(schema.Args, func(u api.Term) api.Term {
		if u.Var && (u.Name[0] == mark || d.IntN(8) == 0) {
			return d.term(2, "x", "y", "x1")
		}
		return u
	})
	var sub []api.Form
	for _, part := range schema.Sub {
		sub = append(sub, d.near(part))
	}
	schema.Sub = sub
	return schema
}

// P7.4: filling with what was found gives the formula.
func TestFillWhatMatches(t *testing.T) {
	ok, unknown := 0, 0
	for n := range uint64(6000) {
		d := fixed(n)
		schema := d.schema(4, d.anyMeta, []string{"x", "y", "?s", "?t"})
		f, known := d.near(schema), d.part(d.binding("x", "y", "?x"))
		b, errno := Match(schema, f, known)
		if errno != api.OK {
			continue
		}
		g, errno := Fill(schema, b)
		if errno == api.ErrNone {
			unknown++
			continue
		}
		ok++
		if errno != api.OK || !subst.Alpha(f, g) {
			t.Fatalf("%s matches %s with %s, but filled it is %s, %d", show(schema), show(f), showBinding(b), show(g), errno)
		}
	}
	checkMany(t, "schemas that match are filled", ok, 1000)
	if unknown > 0 {
		t.Errorf("%d times something in a schema that matches is not known", unknown)
	}
}

// P7.4: what has been filled is matched, and what is found is what was filled in; formulas that are equal up to bound names are matched alike.
func TestMatchWhatIsFilled(t *testing.T) {
	ok, alikes := 0, 0
	for n := range uint64(12000) {
		d := fixed(n)
		schema := d.schema(5, d.anyMeta, []string{"x", "y", "?s", "?t"})
		whole := d.binding("x", "y", "x1", "?x", "?y")
		f, errno := Fill(schema, whole)
		if errno != api.OK {
			continue
		}
		ok++
		given := Binding{Forms: whole.Forms}
		if d.IntN(2) == 0 && plain(schema) {
			given = Binding{}
		}
		found, errno := Match(schema, f, given)
		if errno != api.OK {
			t.Fatalf("%s filled with %s is %s, which does not match: %d", show(schema), showBinding(whole), show(f), errno)
		}
		checkAlike(t, found, whole)
		other, _ := subst.Normal(f)
		again, errno := Match(schema, other, given)
		if errno != api.OK || !slices.Equal(namesOf(found), namesOf(again)) {
			t.Fatalf("%s matches %s, but not %s: %d", show(schema), show(f), show(other), errno)
		}
		checkAlike(t, again, found)
		if !syntax.Same(f, other) {
			alikes++
		}
	}
	checkMany(t, "schemas are filled", ok, 1500)
	checkMany(t, "schemas are filled with formulas of other bound names", alikes, 300)
}

// plain reports whether a schema has no OpInst.
func plain(schema api.Form) bool { return syntax.Ops(schema)&(1<<api.OpInst) == 0 }

// checkAlike reports if some metavariable stands for something that is not alike in another binding.
func checkAlike(t *testing.T, b, whole Binding) {
	t.Helper()
	for _, f := range b.Forms {
		g, ok := Form(whole, f.Name)
		if !ok || treeOf(f.Form, "", nil).text() != treeOf(g, "", nil).text() {
			t.Fatalf("%s: %s, not %s", f.Name, show(f.Form), show(g))
		}
	}
	for _, u := range b.Terms {
		v, ok := Term(whole, u.Name)
		if !ok || !syntax.SameTerm(u.Term, v) {
			t.Fatalf("%s: %s, not %s", u.Name, showTerm(u.Term), showTerm(v))
		}
	}
}

// P7.4: a metavariable inside and outside of a quantifier does not have its variable.
func TestInsideAndOutside(t *testing.T) {
	ok, not := 0, 0
	for n := range uint64(2000) {
		d := fixed(n)
		f := d.form(3, "x", "y", "x1")
		g := f
		if d.IntN(3) == 0 {
			g = d.form(2, "x", "y", "x1")
		}
		x := d.of("x", "y")
		b, errno := Match(form("?A & all x ?A"), and(f, one(api.OpAll, x, g)), Binding{})
		if want := subst.Alpha(f, g) && !slices.Contains(subst.Free(g), x); want != (errno == api.OK) {
			t.Fatalf("%s and %s below all %s: %d", show(f), show(g), x, errno)
		}
		if errno != api.OK {
			not++
			continue
		}
		ok++
		if found, _ := Form(b, "?A"); !syntax.Same(found, f) {
			t.Fatalf("%s, not %s", show(found), show(f))
		}
	}
	checkMany(t, "a metavariable matches inside and outside", ok, 300)
	checkMany(t, "a metavariable does not match inside and outside", not, 300)
}

// change is a term that is put for a name.
type change struct {
	name string
	term api.Term
}

// putAll returns a formula with changes made one behind the other, all of them at each part ahead of the next part: a second way to find the same names.
func putAll(f api.Form, l []change) api.Form {
	f.Args = slices.Clone(f.Args)
	for i := range f.Args {
		for _, c := range l {
			f.Args[i] = subst.PutTerm(f.Args[i], []subst.One{{Name: c.name, Term: c.term}})
		}
	}
	inner := l
	if quantifier(f) {
		f.Name, inner = innerChanges(f, l)
	}
	f.Sub = slices.Clone(f.Sub)
	for i, part := range f.Sub {
		f.Sub[i] = putAll(part, inner)
	}
	return f
}

// innerChanges returns the name that a quantifier has in the end, and the changes in its Sub.
func innerChanges(f api.Form, l []change) (string, []change) {
	free := map[string]bool{}
	for _, name := range subst.Free(f.Sub[0]) {
		free[name] = true
	}
	var inner []change
	add := func(c change) {
		inner = append(inner, c)
		if free[c.name] {
			delete(free, c.name)
			for _, name := range subst.FreeTerm(c.term) {
				free[name] = true
			}
		}
	}
	own := f.Name
	for _, c := range l {
		if c.name == own || !free[c.name] {
			continue
		}
		inTerm := subst.FreeTerm(c.term)
		if slices.Contains(inTerm, own) {
			i := 1
			for free["x"+strconv.Itoa(i)] || slices.Contains(inTerm, "x"+strconv.Itoa(i)) {
				i++
			}
			add(change{own, variable("x" + strconv.Itoa(i))})
			own = "x" + strconv.Itoa(i)
		}
		add(c)
	}
	return own, inner
}

// modelFill returns a schema that is filled, if all is known and nothing is left.
func modelFill(f api.Form, b Binding, scope []string) api.Form {
	switch f.Op {
	case api.OpMeta:
		g, _ := Form(b, f.Name)
		return g
	case api.OpInst:
		g, _ := Form(b, f.Name)
		u, _ := Term(b, f.Args[1].Name)
		return putAll(g, []change{{"?" + f.Args[0].Name, u}})
	}
	if quantifier(f) {
		sub := modelFill(f.Sub[0], b, append(slices.Clone(scope), f.Name))
		free, name := subst.Free(sub), f.Name
		for i := 1; slices.Contains(free, name); i++ {
			name = "x" + strconv.Itoa(i)
		}
		return one(f.Op, name, putAll(sub, []change{{"?" + f.Name, variable(name)}}))
	}
	f.Args = changedTerms(f.Args, func(u api.Term) api.Term {
		if v, ok := Term(b, u.Name); u.Var && ok {
			return v
		}
		if u.Var && slices.Contains(scope, u.Name) {
			return variable("?" + u.Name)
		}
		return u
	})
	var sub []api.Form
	for _, part := range f.Sub {
		sub = append(sub, modelFill(part, b, scope))
	}
	f.Sub = sub
	return f
}

// left reports whether a placeholder is left in a schema that is filled, and whether something is not known.
func left(f api.Form, b Binding, scope []string) (holder, unknown bool) {
	free := func(names []string, but string) {
		for _, name := range names {
			holder = holder || name[0] == mark && name != but && !slices.Contains(scope, name[1:])
		}
	}
	switch f.Op {
	case api.OpMeta, api.OpInst:
		g, ok := Form(b, f.Name)
		unknown = !ok
		if f.Op == api.OpMeta || !slices.Contains(subst.Free(g), "?"+f.Args[0].Name) {
			free(subst.Free(g), "")
			return
		}
		free(subst.Free(g), "?"+f.Args[0].Name)
		u, ok := Term(b, f.Args[1].Name)
		free(subst.FreeTerm(u), "")
		return holder, unknown || !ok
	}
	for _, name := range Metas(api.Form{Args: f.Args}) {
		u, ok := Term(b, name)
		unknown = unknown || !ok
		free(subst.FreeTerm(u), "")
	}
	if quantifier(f) {
		scope = append(slices.Clone(scope), f.Name)
	}
	for _, part := range f.Sub {
		h, u := left(part, b, scope)
		holder, unknown = holder || h, unknown || u
	}
	return
}

// P7.3: drawn schemas become what the second way says, name for name, and they match what they have become.
func TestFillModel(t *testing.T) {
	count := map[api.Errno]int{}
	for n := range uint64(12000) {
		d := fixed(n)
		schema := d.schema(5, d.anyMeta, []string{"x", "y", "x1", "?s", "?t"})
		b := d.binding(d.of("x", "?x"), d.of("y", "?y"), "x1", "x2", "?x")
		if d.IntN(5) == 0 {
			b = d.part(b)
		}
		f, errno := Fill(schema, b)
		holder, unknown := left(schema, b, nil)
		want := api.OK
		switch {
		case unknown:
			want = api.ErrNone
		case holder:
			want = ErrScope
		}
		if errno != want {
			t.Fatalf("%s with %s: %d, not %d", show(schema), showBinding(b), errno, want)
		}
		count[errno]++
		if errno != api.OK {
			continue
		}
		nodes := 0
		for p := range places(Pair{schema, schema}) {
			nodes += fillingOf(schema, know(b)).outcome(p.schema).nodes
		}
		if nodes != syntax.Nodes(f) { // or it would be made if it is too long, and be too long to be made
			t.Fatalf("%s has %d nodes, not %d", show(f), syntax.Nodes(f), nodes)
		}
		if g := modelFill(schema, b, nil); !syntax.Same(f, g) {
			t.Fatalf("%s with %s: %s, not %s", show(schema), showBinding(b), show(f), show(g))
		}
		if found, errno := Match(schema, f, b); errno != api.OK || !sameBinding(found, b) {
			t.Fatalf("%s with %s: %s does not match: %d, %s", show(schema), showBinding(b), show(f), errno, showBinding(found))
		}
	}
	checkMany(t, "schemas are filled", count[api.OK], 2000)
	checkMany(t, "placeholders are left", count[ErrScope], 1000)
	checkMany(t, "something is not known", count[api.ErrNone], 300)
}

// P7.3: names in deep formulas are the same as those that the second way finds.
func TestPutModel(t *testing.T) {
	renamed := 0
	for n := range uint64(6000) {
		d := fixed(n)
		f := d.form(2, "x1", "x2", "x3", "?x")
		for range d.IntN(9) {
			f = one(api.OpAll, d.of("x1", "x2", "x3", "x4", "y"), f)
			if d.IntN(3) == 0 {
				f = and(f, d.form(2, "x1", "x2", "y", "?x"))
			}
		}
		b := Binding{[]FormBind{{"?A", f}}, []TermBind{{"?t", d.term(4, "x1", "x2", "x3", "y")}}}
		g, errno := Fill(form("?A[?t/x]"), b)
		if want := putAll(f, []change{{"?x", b.Terms[0].Term}}); errno != api.OK || !syntax.Same(g, want) {
			t.Fatalf("%s with %s: %s, not %s", show(f), showBinding(b), show(g), show(want))
		}
		if !slices.Equal(subst.Bound(f), subst.Bound(g)) {
			renamed++
		}
	}
	checkMany(t, "quantifiers are put away", renamed, 500)
}
