package rule

import (
	"slices"
	"strings"
	"testing"

	"lyceum/api"
	"lyceum/match"
	"lyceum/subst"
	"lyceum/syntax"
)

// P8.3: what premises have to be.
func TestBack(t *testing.T) {
	for _, c := range []struct{ rule, concl, binding, taken, want, wantBinding string }{
		{"=> ?A | ~?A", "P | ~P", "", "", "", "?A: P"},
		{"=> P", "P", "", "", "", ""},
		{andI, "P & Q", "", "", "P; Q", "?A: P; ?B: Q"},
		{andI, "P & Q", "?A: P; ?Z: R; ?t: a", "", "P; Q", "?A: P; ?B: Q; ?Z: R; ?t: a"},
		{orE, "R", "?A: P; ?B: Q", "", "P | Q; {P} R; {Q} R", "?A: P; ?B: Q; ?C: R"},
		{impI, "P -> Q", "", "", "{P} Q", "?A: P; ?B: Q"},
		{boxI2, "[]P", "?A: Q; ?B: R", "", "[]Q; []R; closed {Q; R} P", "?A: Q; ?B: R; ?D: P"},
		{allE, "P(a)", "?A: P(?x); ?t: a", "", "all x P(x)", "?A: P(?x); ?t: a"},
		{allE, "P(a)", "?A: P(?x)", "", "all x P(x)", "?A: P(?x); ?t: a"},
		{allE, "Q(x)", "?A: Q(x)", "", "all x1 Q(x)", "?A: Q(x)"},
		{someI, "some y P(y, x)", "?t: x", "", "P(x, x)", "?A: P(?x, x); ?t: x"},
		// fresh names that become known
		{allI, "all y P(y)", "", "", "fresh x1 P(x1)", "?A: P(?x); ?a: x1"},
		{allI, "all x1 P(x1)", "", "", "fresh x1 P(x1)", "?A: P(?x); ?a: x1"}, // not a free variable
		{allI, "all y Q", "", "", "fresh x1 Q", "?A: Q; ?a: x1"},
		{allI, "all y P(y)", "", "x1", "fresh x2 P(x2)", "?A: P(?x); ?a: x2"},
		{allI, "all y P(y)", "", "y x x01 x2 x3 x", "fresh x1 P(x1)", "?A: P(?x); ?a: x1"},
		{allI, "all y P(y)", "", "x3 x1 x4 x2 x6", "fresh x5 P(x5)", "?A: P(?x); ?a: x5"},
		{allI, "all y P(y, x1)", "", "x2", "fresh x3 P(x3, x1)", "?A: P(?x, x1); ?a: x3"},
		{"fresh ?a {?B[?a/x]} ?B => Q(x1)", "Q(x1)", "?B: P(?x)", "", "", "error 72"},
		{"some x ?B; fresh ?a {?B[?a/x]} ?C => ?C & Q(x1)", "P & Q(x1)", "?B: P(?x)", "", "some x P(x); fresh x2 {P(x2)} P", "?B: P(?x); ?C: P; ?a: x2"}, // free in the conclusion alone
		{someE, "Q", "?A: P(?x)", "", "some x P(x); fresh x1 {P(x1)} Q", "?A: P(?x); ?C: Q; ?a: x1"},
		{someE, "Q", "?A: P(?x); ?Z: R(x1, x3)", "", "some x P(x); fresh x2 {P(x2)} Q", "?A: P(?x); ?C: Q; ?Z: R(x1, x3); ?a: x2"},
		{someE, "Q", "?A: P(?x); ?b: f(x1, g(x2)); ?t: x4", "x3", "some x P(x); fresh x5 {P(x5)} Q", "?A: P(?x); ?C: Q; ?a: x5; ?b: f(x1, g(x2)); ?t: x4"},
		{someE, "Q", "?A: P(?x1); ?Z: all x1 P(x1)", "", "", "error 72"},
		{someE, "Q", "?A: P(?x); ?Z: R(?x1) & all x1 P(x1)", "", "some x P(x); fresh x1 {P(x1)} Q", "?A: P(?x); ?C: Q; ?Z: R(?x1) & all x1 P(x1); ?a: x1"}, // bound, and a placeholder
		{two, "all x P(x) & R & S", "", "", "fresh x1 P(x1); fresh x2 {P(x2); R} S", "?A: P(?x); ?B: R; ?C: S; ?a: x1; ?b: x2"},
		{two, "all x P(x) & R & S", "?b: x1", "", "fresh x2 P(x2); fresh x1 {P(x1); R} S", "?A: P(?x); ?B: R; ?C: S; ?a: x2; ?b: x1"},
		{two, "all x P(x) & R & S", "?a: x1", "", "fresh x1 P(x1); fresh x2 {P(x2); R} S", "?A: P(?x); ?B: R; ?C: S; ?a: x1; ?b: x2"},
		{same, "all x P(x) & R", "", "x2", "fresh x1 P(x1); closed fresh x1 {P(x1)} R", "?A: P(?x); ?B: R; ?a: x1"},
		{"fresh ?b ?A[?b/x]; fresh ?a ?A[?a/x] => all x ?A", "all x P(x)", "?aa: x1; ?c: x4", "x2", "fresh x3 P(x3); fresh x5 P(x5)", "?A: P(?x); ?a: x5; ?aa: x1; ?b: x3; ?c: x4"},
		// of premises behind that with the OpInst
		{"?A[?a/x]; fresh ?a {?A[?a/x]} P => all x ?A", "all x P(x)", "", "", "P(x1); fresh x1 {P(x1)} P", "?A: P(?x); ?a: x1"},
		// fresh names that are known, whatever they are
		{allI, "all x P(x, y)", "?a: y", "y", "fresh y P(y, y)", "?A: P(?x, y); ?a: y"},
		{allI, "all x P(x)", "?a: f(a)", "", "fresh f P(f(a))", "?A: P(?x); ?a: f(a)"},
		{allI, "all x P(x)", "?a: b", "", "fresh b P(b)", "?A: P(?x); ?a: b"},
		{allI, "all x P(x)", "?a: ?y", "", "", "error 72"},
		{allI, "all x Q", "?a: ?y", "", "fresh ?y Q", "?A: Q; ?a: ?y"},
		{"fresh ?a ?A[?a/x] => all x ?A & P(?a)", "all x Q(x) & P(g(x1))", "", "", "fresh g Q(g(x1))", "?A: Q(?x); ?a: g(x1)"},
		{"closed fresh ?a ?A[?a/x]; closed {false} ?A => ?A", "P", "", "", "closed fresh x1 P; closed {false} P", "?A: P; ?a: x1"},
		// conclusions that do not match
		{andI, "P | Q", "", "", "", "error 80"},
		{andI, "P & Q", "?A: Q", "", "", "error 80"},
		{allE, "P(a)", "", "", "", "error 80"}, // for match it is one too early
		{allE, "P(a)", "?A: P(?x); ?t: b", "", "", "error 80"},
		{"=> P", "Q", "", "", "", "error 80"},
		// premises that cannot be filled
		{orE, "R", "?A: P", "", "", "error 6"},
		{orE, "R", "", "", "", "error 6"},
		{someI, "some x P(x)", "", "", "", "error 6"},
		{someI, "some x P(x)", "?t: ?x", "", "", "error 72"},
		{"?A; ?B => ?C", "P", "?A: P(?x)", "", "", "error 72"},
		{"?B; ?A => ?C", "P", "?A: P(?x)", "", "", "error 6"},
		{"{?B} ?A; ?B => ?C", "P", "?A: P(?x)", "", "", "error 72"},
		{"{?A} ?C; ?B; ?A => ?C", "P", "?A: P(?x)", "", "", "error 72"},
		{"{?C; ?C; ?B} ?C; ?A; ?B => ?C", "P", "?A: P(?x)", "", "", "error 6"},
		{"{?A; ?B} ?C; ?A; ?B => ?C", "P", "?A: P(?x)", "", "", "error 72"},
		{"?A; {?C} ?B => ?C", "P", "?A: Q", "", "", "error 6"},
		{"?A; ?C => ?C", "P", "?A: P(?x)", "", "", "error 72"},
		{"?C; {?B} ?C; ?A; ?B => ?C", "P", "?A: P(?x)", "", "", "error 6"},
	} {
		prems, b, errno := Back(rules(c.rule), form(c.concl), bindings(c.binding), strings.Fields(c.taken))
		wantErrno, wanted := api.OK, c.wantBinding
		for text, e := range map[string]api.Errno{"error 6": api.ErrNone, "error 72": match.ErrScope, "error 80": ErrStep} {
			if wanted == text {
				wantErrno, wanted = e, ""
			}
		}
		if showPremises(prems) != c.want || showBinding(b) != wanted || errno != wantErrno {
			t.Errorf("%s, %s with %s: %s, %s, error %d", c.rule, c.concl, c.binding, showPremises(prems), showBinding(b), errno)
		}
	}
}

// P8.3: arguments that are not right or valid, ahead of a conclusion that does not match.
func TestBackArguments(t *testing.T) {
	for i, c := range []struct {
		rule  string
		concl api.Form
		b     match.Binding
		taken []string
		want  api.Errno
	}{
		{allI, form("all x P(x)"), bindings("?A: P(?x)"), []string{"x", "x1"}, api.OK},
		{"{?A} ?B => ?B", form("P"), match.Binding{}, nil, api.ErrArg},
		{"fresh ?a ?B => ?B", form("P"), match.Binding{}, nil, api.ErrArg},
		{allI, api.Form{}, match.Binding{}, nil, api.ErrArg},
		{allI, form("?A"), match.Binding{}, nil, api.ErrArg},
		{allI, form("all x P(?x)"), match.Binding{}, nil, api.ErrArg},
		{allI, nots(40, form("P")), match.Binding{}, nil, api.ErrArg},
		{allI, nots(deep, form("P")), match.Binding{}, nil, api.ErrArg},
		{allI, conjunction(201, form("P")), match.Binding{}, nil, api.ErrArg},
		{allI, form("all x P(x)"), bindings("?B: P; ?A: P"), nil, api.ErrArg},
		{allI, form("all x P(x)"), bindings("?B: P; ?B: P"), nil, api.ErrArg},
		{allI, form("all x P(x)"), bindings("?t: a; ?s: a"), nil, api.ErrArg},
		{allI, form("all x P(x)"), bindings("?B: ?C"), nil, api.ErrArg},
		{allI, form("all x P(x)"), bindings("?s: ?t"), nil, api.ErrArg},
		{allI, form("P"), bindings("?B: ?C"), nil, api.ErrArg},
		{allI, form("all x P(x)"), match.Binding{}, []string{""}, api.ErrArg},
		{allI, form("all x P(x)"), match.Binding{}, []string{"x", "a"}, api.ErrArg},
		{allI, form("all x P(x)"), match.Binding{}, []string{"x", "?x", "y"}, api.ErrArg},
		{allI, form("all x P(x)"), match.Binding{}, []string{"x1y"}, api.ErrArg},
		{andI, form("P"), match.Binding{}, []string{"P"}, api.ErrArg},
		{andI, form("P & Q"), match.Binding{}, []string{"P"}, api.ErrArg},
	} {
		prems, b, errno := Back(rules(c.rule), c.concl, c.b, c.taken)
		if errno != c.want || (errno != api.OK) != (len(prems) == 0 && empty(b)) {
			t.Errorf("%d: error %d", i, errno)
		}
	}
}

// P8.3: premises that become too long.
func TestBackLimits(t *testing.T) {
	for n, want := range map[int]api.Errno{100: api.OK, 101: api.ErrLong} {
		f := conjunction(n, form("P")) // of 2 n - 1 nodes
		prems, b, errno := Back(rules("{?A & ?A} P => ?A & ?A"), api.Form{Op: api.OpAnd, Sub: []api.Form{f, f}}, match.Binding{}, nil)
		if n == 101 {
			prems, b, errno = Back(rules("{?A & ?A} P; ?B => ?A"), f, bindings("?B: R(?x)"), nil)
		}
		if errno != want || (errno != api.OK) != (len(prems) == 0 && empty(b)) {
			t.Errorf("%d: error %d", n, errno)
		}
	}
	f := nots(39, form("P"))
	if _, _, errno := Back(rules("?A; ~?A => ?A"), f, match.Binding{}, nil); errno != api.ErrLong {
		t.Errorf("too deep: error %d", errno)
	}
	if _, _, errno := Back(rules("?A => ?A"), f, match.Binding{}, nil); errno != api.OK {
		t.Errorf("not too deep: error %d", errno)
	}
}

// P8.3: many names that are taken.
func TestBackTaken(t *testing.T) {
	var taken []string
	for n := range 20000 {
		taken = append(taken, "x"+decimal(20000-n))
	}
	prems, _, errno := Back(rules(allI), form("all x P(x)"), match.Binding{}, taken)
	if showPremises(prems) != "fresh x20001 P(x20001)" || errno != api.OK {
		t.Errorf("%s, error %d", showPremises(prems), errno)
	}
}

// P8.3: what is drawn, against the chapter's text put down anew.
func TestBackDrawn(t *testing.T) {
	d := fixed(3)
	counts := map[api.Errno]int{}
	for range 12000 {
		r, b := d.rightRule(), d.binding()
		concl, errno := match.Fill(r.Concl, b)
		if errno != api.OK {
			concl = d.form(3, "x", "y", "x1")
		}
		b = d.part(b)
		taken := []string{"x1", "y", "x3", "x2"}[:d.IntN(5)]
		prems, got, errno := Back(r, concl, b, taken)
		want, wantBinding, wantErrno := backModel(r, concl, b, taken)
		if showPremises(prems) != showPremises(want) || showBinding(got) != showBinding(wantBinding) || errno != wantErrno {
			t.Fatalf("%s, %s with %s: %s, error %d; not %s, error %d", showRule(r), show(concl), showBinding(b), showPremises(prems), errno, showPremises(want), wantErrno)
		}
		counts[errno]++
	}
	for errno, least := range map[api.Errno]int{api.OK: 1000, api.ErrNone: 100, match.ErrScope: 100, ErrStep: 500} {
		checkMany(t, "error "+decimal(int(errno)), counts[errno], least)
	}
}

// part draws some of a binding.
func (d draws) part(b match.Binding) match.Binding {
	b.Forms = slices.DeleteFunc(b.Forms, func(match.FormBind) bool { return d.IntN(3) == 0 })
	b.Terms = slices.DeleteFunc(b.Terms, func(match.TermBind) bool { return d.IntN(2) == 0 })
	return b
}

// backModel is what Back returns for arguments that are right.
func backModel(r api.Rule, concl api.Form, b match.Binding, taken []string) ([]api.Prem, match.Binding, api.Errno) {
	b, errno := match.Match(r.Concl, concl, b)
	if errno != api.OK {
		return nil, match.Binding{}, ErrStep
	}
	for _, p := range r.Prems {
		if _, known := match.Term(b, p.Fresh); known || p.Fresh == "" {
			continue
		}
		n := 1
		for inUse("x"+decimal(n), concl, b, taken) {
			n++
		}
		b.Terms = append(b.Terms, match.TermBind{Name: p.Fresh, Term: variable("x" + decimal(n))})
		slices.SortFunc(b.Terms, func(t, u match.TermBind) int { return strings.Compare(t.Name, u.Name) })
	}
	var l []api.Prem
	for _, p := range r.Prems {
		schemas := append([]api.Form{p.Concl}, p.Hyps...)
		for i, schema := range schemas {
			if schemas[i], errno = match.Fill(schema, b); errno != api.OK {
				return nil, match.Binding{}, errno
			}
		}
		if p.Fresh != "" {
			found, _ := match.Term(b, p.Fresh)
			p.Fresh = found.Name
		}
		p.Concl, p.Hyps = schemas[0], schemas[1:]
		l = append(l, p)
	}
	return l, b, api.OK
}

// inUse reports whether a variable is taken, or free in what there is.
func inUse(name string, concl api.Form, b match.Binding, taken []string) bool {
	free := slices.Concat(taken, subst.Free(concl))
	for _, f := range b.Forms {
		free = append(free, subst.Free(f.Form)...)
	}
	for _, t := range b.Terms {
		free = append(free, subst.Free(atom("P", t.Term))...)
	}
	return slices.Contains(free, name)
}

// decimal is the text of a number that is not negative.
func decimal(n int) string {
	if n < 10 {
		return string(rune('0' + n))
	}
	return decimal(n/10) + decimal(n%10)
}

// P8.3: arguments are not changed, and what Back returns is in memory of its own.
func TestBackMemory(t *testing.T) {
	r := rules(someE)
	concl, b, taken := form("Q(f(z))"), bindings("?A: P(?x, f(y)); ?Z: R(f(y)); ?b: f(y)"), []string{"x2", "x1"}
	b.Terms = slices.Grow(b.Terms, 4)
	texts := showRule(r) + show(concl) + showBinding(b) + strings.Join(taken, " ")
	prems, got, errno := Back(r, concl, b, taken)
	wantPrems, wantBinding := showPremises(prems), showBinding(got)
	if errno != api.OK || wantPrems != "some x P(x, f(y)); fresh x3 {P(x3, f(y))} Q(f(z))" || b.Terms[:2][1].Name != "" {
		t.Fatalf("%s, error %d, %s in spare capacity", wantPrems, errno, b.Terms[:2][1].Name)
	}
	for i := range prems {
		spoil(prems[i].Concl)
		if showBinding(got) != wantBinding {
			t.Error("premises and binding share memory")
		}
		for _, hyp := range prems[i].Hyps {
			spoil(hyp)
		}
	}
	if showBinding(got) != wantBinding {
		t.Error("premises and binding share memory")
	}
	spoilBinding(got)
	if showRule(r)+show(concl)+showBinding(b)+strings.Join(taken, " ") != texts {
		t.Error("the arguments have changed")
	}
	prems, got, _ = Back(r, concl, b, taken)
	spoil(concl)
	spoilBinding(b)
	spoil(r.Concl)
	for _, p := range r.Prems {
		spoil(p.Concl)
		for _, hyp := range p.Hyps {
			spoil(hyp)
		}
	}
	if showPremises(prems) != wantPrems || showBinding(got) != wantBinding {
		t.Error("the results share memory with arguments")
	}
}

// P8.4: what Back returns is a step, whatever else is assumed; bound names do not matter; less may be discharged or assumed.
func TestBackAndApply(t *testing.T) {
	d := fixed(4)
	steps, withFresh, renamed, less := 0, 0, 0, 0
	for i := range 10000 {
		r := d.rightRule()
		if i%4 == 0 {
			r = rules(d.of(allI, someE, two, same, both, other))
		}
		b := without(d.binding(), "?a", "?b")
		concl, errno := match.Fill(r.Concl, b)
		if errno != api.OK || freshInConclusion(r) {
			continue
		}
		taken := []string{"x1", "x2", "x3"}
		prems, full, errno := Back(r, concl, b, taken)
		if errno != api.OK {
			continue
		}
		l := step(prems)
		for i, p := range prems {
			for range d.IntN(3) {
				if f := d.form(2, "x", "y", "x1", "x2"); !p.Closed {
					l[i].Rest = append(l[i].Rest, f)
				}
			}
			if p.Fresh != "" {
				withFresh++
			}
		}
		checkStep(t, r, concl, l, full)
		steps++
		for range 3 {
			if other := d.renamedStep(l); showStep(concl, other) != showStep(concl, l) {
				checkStep(t, r, d.renamed(concl), other, full)
				renamed++
			}
			if other := d.lessOf(l); showStep(concl, other) != showStep(concl, l) {
				checkStep(t, r, concl, other, full)
				less++
			}
		}
	}
	checkMany(t, "steps", steps, 1000)
	checkMany(t, "fresh names", withFresh, 500)
	checkMany(t, "other bound names", renamed, 500)
	checkMany(t, "less", less, 1000)
}

// checkStep reports a step that is not accepted, or that matches with something else than Back returned.
func checkStep(t *testing.T, r api.Rule, concl api.Form, l []Got, full match.Binding) {
	t.Helper()
	b, fault, errno := Apply(r, concl, l)
	if fault != (Fault{}) || errno != api.OK {
		t.Fatalf("%s, %s: fault %v, error %d", showRule(r), showStep(concl, l), fault, errno)
	}
	for _, f := range b.Forms {
		g, _ := match.Form(full, f.Name)
		if !sameShown(f.Form, g) {
			t.Fatalf("%s, %s: %s is %s, not %s", showRule(r), showStep(concl, l), f.Name, show(f.Form), show(g))
		}
	}
	for _, found := range b.Terms {
		u, _ := match.Term(full, found.Name)
		if !syntax.SameTerm(found.Term, u) {
			t.Fatalf("%s, %s: another term for %s", showRule(r), showStep(concl, l), found.Name)
		}
	}
}

// sameShown reports whether two formulas with the placeholder of x are equal up to bound names.
func sameShown(f, g api.Form) bool {
	plain := func(t api.Term) api.Term {
		if t.Name[0] == '?' {
			return variable("w7")
		}
		return t
	}
	return subst.Alpha(changedForm(f, plain), changedForm(g, plain))
}

// freshInConclusion reports whether a Fresh of a rule stands where matching a conclusion makes it known.
func freshInConclusion(r api.Rule) bool {
	l := match.Metas(r.Concl)
	return slices.ContainsFunc(r.Prems, func(p api.Prem) bool { return slices.Contains(l, p.Fresh) })
}

// renamedStep draws other bound names for a step.
func (d draws) renamedStep(l []Got) []Got {
	l = copied(l)
	for i, g := range l {
		l[i].Concl = d.renamed(g.Concl)
		for j, h := range g.Hyps {
			g.Hyps[j].Form = d.renamed(h.Form)
		}
		for j, f := range g.Rest {
			g.Rest[j] = d.renamed(f)
		}
	}
	return l
}

// lessOf draws what is less discharged, and less assumed.
func (d draws) lessOf(l []Got) []Got {
	l = copied(l)
	for i, g := range l {
		for j := range g.Hyps {
			if d.IntN(2) == 0 {
				g.Hyps[j] = Hyp{}
			}
		}
		l[i].Rest = slices.DeleteFunc(g.Rest, func(api.Form) bool { return d.IntN(2) == 0 })
	}
	return l
}

// P8.4: what is not accepted any more: a fresh name that is free in another assumption, and something else assumed where nothing may be.
func TestBackAndMore(t *testing.T) {
	for _, c := range []struct{ rule, concl, binding, more, want string }{
		{allI, "all x P(x)", "", "Q(x1)", "5 0 0"},
		{allI, "all x P(x)", "", "all x1 Q(x1)", "0 0 0"},
		{allI, "all x P(x)", "", "Q(x2)", "0 0 0"},
		{someE, "Q", "?A: P(?x)", "Q(x1)", "5 1 0"},
		{boxI2, "[]P", "?A: Q; ?B: R", "S", "7 2 0"},
	} {
		r, concl := rules(c.rule), form(c.concl)
		prems, _, _ := Back(r, concl, bindings(c.binding), nil)
		l := step(prems)
		l[len(l)-1].Rest = []api.Form{form(c.more)}
		if _, fault, _ := Apply(r, concl, l); showFault(fault) != c.want {
			t.Errorf("%s, %s with %s: fault %v", c.rule, c.concl, c.more, fault)
		}
	}
}
