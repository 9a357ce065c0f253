package rule

import (
	"testing"

	"lyceum/api"
	"lyceum/match"
	"lyceum/subst"
	"lyceum/syntax"
)

// Rules of the tests: those of logics, and more with several fresh names.
const (
	andI  = "?A; ?B => ?A & ?B"
	orE   = "?A | ?B; {?A} ?C; {?B} ?C => ?C"
	impI  = "{?A} ?B => ?A -> ?B"
	allI  = "fresh ?a ?A[?a/x] => all x ?A"
	allE  = "all x ?A => ?A[?t/x]"
	someI = "?A[?t/x] => some x ?A"
	someE = "some x ?A; fresh ?a {?A[?a/x]} ?C => ?C"
	boxI2 = "[]?A; []?B; closed {?A; ?B} ?D => []?D"
	two   = "fresh ?a ?A[?a/x]; fresh ?b {?A[?b/x]; ?B} ?C => all x ?A & ?B & ?C"
	same  = "fresh ?a ?A[?a/x]; closed fresh ?a {?A[?a/x]} ?B => all x ?A & ?B"
	both  = "closed fresh ?a ?A[?a/x] => all x ?A"
	other = "some x ?A; ?B; fresh ?a {?A[?a/x]} ?C => ?C"
)

// P8.2: steps that are accepted, and what they match with.
func TestApply(t *testing.T) {
	for _, c := range []struct{ rule, step, want string }{
		{"=> ?A | ~?A", "=> P | ~P", "?A: P"},
		{"=> P", "=> P", ""},
		{andI, "P; Q => P & Q", "?A: P; ?B: Q"},
		{andI, "P / R + ~P; P / P => P & P", "?A: P; ?B: P"},
		{orE, "P | Q; {P} R; {Q} R => R", "?A: P; ?B: Q; ?C: R"},
		{orE, "P | Q; {-} R / P; {-} R => R", "?A: P; ?B: Q; ?C: R"},
		{impI, "{P} Q / S => P -> Q", "?A: P; ?B: Q"},
		{impI, "{-} Q => P -> Q", "?A: P; ?B: Q"},
		{impI, "{all x P(x)} Q => (all y P(y)) -> Q", "?A: all x P(x); ?B: Q"}, // Hyps come ahead of the conclusion
		{allE, "all y some z R(y, z) => some x R(f(z), x)", "?A: some z R(?x, z); ?t: f(z)"},
		{allE, "all y Q => Q", "?A: Q"},
		{someI, "P(x, x) => some y P(y, x)", "?A: P(?x, x); ?t: x"},
		{allI, "P(y) => all x P(x)", "?A: P(?x); ?a: y"},
		{allI, "P(x) => all x P(x)", "?A: P(?x); ?a: x"},
		{allI, "P(y) / Q(x) + some y P(y) => all x P(x)", "?A: P(?x); ?a: y"},
		{allI, "Q / P(y) => all x Q", "?A: Q"}, // no fresh name
		{allI, "Q(y) => all x Q(y)", "?A: Q(y)"},
		{allI, "P(y, z) => all x P(x, z)", "?A: P(?x, z); ?a: y"},
		{someE, "some x P(x); {P(y)} Q => Q", "?A: P(?x); ?C: Q; ?a: y"},
		{someE, "some x P(x) / P(y); {P(y)} Q => Q", "?A: P(?x); ?C: Q; ?a: y"}, // the Rest of the other premise
		{someE, "some x P(x); {-} Q(y) / R(y) => Q(y)", "?A: P(?x); ?C: Q(y)"},
		{someE, "some x P(x); {P(y)} all y Q(y) / all y P(y) => all z Q(z)", "?A: P(?x); ?C: all y Q(y); ?a: y"},
		{someE, "some x P(f(x)); {P(f(y))} Q => Q", "?A: P(f(?x)); ?C: Q; ?a: y"},
		{boxI2, "[]P / R; []Q / R; {P; Q} S => []S", "?A: P; ?B: Q; ?D: S"},
		{boxI2, "[]P; []Q; {-; Q} S => []S", "?A: P; ?B: Q; ?D: S"},
		{two, "P(x); {P(y); R} R => all x P(x) & R & R", "?A: P(?x); ?B: R; ?C: R; ?a: x; ?b: y"},
		{two, "P(y); {P(y); -} R => all x P(x) & R & R", "?A: P(?x); ?B: R; ?C: R; ?a: y; ?b: y"},
		{same, "P(y); {P(y)} R => all x P(x) & R", "?A: P(?x); ?B: R; ?a: y"},
		{"fresh ?a all y ?A[?a/x] => all x all y ?A", "all z P(z, y) => all x all z P(z, x)", "?A: P(?y, ?x); ?a: y"},
		{"?A; ?A; ?A; {?A; ?A; ?A} ?A => ?A", "P; P; P; {P; P; P} P => P", "?A: P"},
	} {
		concl, l := steps(c.step)
		b, fault, errno := Apply(rules(c.rule), concl, l)
		if showBinding(b) != c.want || fault != (Fault{}) || errno != api.OK {
			t.Errorf("%s, %s: %s, fault %v, error %d", c.rule, c.step, showBinding(b), fault, errno)
		}
	}
}

// P8.2: the faults of steps, the first one of each.
func TestFaults(t *testing.T) {
	for _, c := range []struct{ rule, step, want string }{
		// the chapter's examples
		{someE, "some x P(x); {P(y)} Q(y) => Q(y)", "4 1 0"},
		{someE, "some x P(x); {P(y)} Q / R(y) => Q", "5 1 0"},
		{someE, "some x S(x, y); {S(y, y)} Q => Q", "6 1 0"},
		{someE, "some x P(x); {P(c)} Q => Q", "3 1 0"},
		// other numbers of premises and assumptions
		{andI, "=> P & Q", "1 0 0"},
		{andI, "P => P & Q", "1 0 0"},
		{andI, "P; Q; Q => P & Q", "1 0 0"},
		{andI, "P; Q; Q; P; Q; Q => P & Q", "1 0 0"},
		{"=> P", "P => P", "1 0 0"},
		{andI, "P; {P} Q => P & Q", "1 1 0"},
		{andI, "{-} P; {P} Q => P & Q", "1 0 0"},
		{andI, "Q; {-} P => P & Q", "1 1 0"}, // ahead of what does not match
		{impI, "{-; -} Q => P -> Q", "1 0 0"},
		{impI, "Q => P -> Q", "1 0 0"},
		{orE, "P | Q; {P} R; R => R", "1 2 0"},
		{boxI2, "[]P; []Q; {P} S / S => []R", "1 2 0"},
		// what does not match
		{andI, "P; Q => P & R", "2 2 0"},
		{andI, "P; Q => P | Q", "2 2 0"},
		{"=> P", "=> Q", "2 0 0"},
		{"P & ?A => ?A", "Q & P => P", "2 0 0"},
		{orE, "P & Q; {P} R; {Q} R => R", "2 0 0"},
		{orE, "P | Q; {P} R; {Q} S => R", "2 2 0"},
		{orE, "P | Q; {R} R; {R} R => R", "2 1 1"},
		{orE, "P | Q; {P} R; {P} R => R", "2 2 1"},
		{orE, "P | Q; {-} R; {P} R => R", "2 2 1"},
		{orE, "P | Q; {P} R; {Q} R => S", "2 3 0"},
		{orE, "P | Q; {Q} R; {P} R => S", "2 1 1"}, // Hyps come ahead of the conclusion
		{orE, "P | Q; {Q} R; {P} S => R", "2 2 0"}, // and behind all Concl
		{boxI2, "[]P; []Q; {P; P} S => []S", "2 2 2"},
		{boxI2, "[]P; []Q; {-; P} S => []S", "2 2 2"},
		{boxI2, "[]P; []Q; {Q; P} S => []S", "2 2 1"},
		{boxI2, "[]P; []Q; {P; Q} S / S => []R", "2 3 0"},
		{allI, "P(y, y) => all x P(x, z)", "2 0 0"}, // found in the second pass
		{allE, "all x P(x, x) => P(a, b)", "2 1 0"},
		{someE, "some x P(x); {Q(y)} Q => Q", "2 1 1"},
		{someE, "some x P(x, x); {P(y, z)} Q(y) => Q(y)", "2 1 1"},
		{same, "P(y); {P(z)} R / R => all x P(x) & R", "2 1 1"},
		// fresh names
		{allI, "P(a) => all x P(x)", "3 0 0"},
		{allI, "P(f(y)) => all x P(x)", "3 0 0"},
		{allI, "P(f(y)) / P(y) => all x P(x)", "3 0 0"},
		{"fresh ?a all y ?A[?a/x] => all x ?A", "all y P(y) => all x P(x)", "3 0 0"}, // a placeholder
		{allI, "P(y, y) => all x P(x, y)", "4 0 0"},
		{allI, "P(y, y) / P(y) => all x P(x, y)", "4 0 0"},
		{allI, "P(y) / P(y) => all x P(x)", "5 0 0"},
		{allI, "P(y) / Q + P(x) + all x P(y) + P(y) => all x P(x)", "5 0 2"},
		{someE, "some x P(x) / R(y); {P(y)} Q / R + all y R(y) + R(y) => Q", "5 1 2"},
		{someE, "some x S(x, y); {S(y, y)} Q(y) / R(y) => Q(y)", "4 1 0"},
		{someE, "some x S(x, y); {S(y, y)} Q / R(y) => Q", "5 1 0"},
		{"some x ?B; ?A; fresh ?a {?B[?a/x]} ?C => ?C", "some x P(x); Q(y); {P(y)} Q => Q", "6 2 0"},
		{other, "some x P(x); Q(y); {P(y)} Q => Q", "6 2 1"},
		{other, "some x P(x); Q(x) & all x P(x); {P(x)} Q => Q", "6 2 1"},
		{other, "some x S(x, y); Q(y); {S(y, y)} Q => Q", "6 2 0"},
		{two, "P(f(x)); {P(y); R} R / P(y) => all x P(x) & R & R", "3 0 0"},
		{two, "P(x); {P(y); R} R / P(y) => all x P(x) & R & R", "5 1 0"},
		{two, "P(x) / Q + P(x); {P(a); R} R => all x P(x) & R & R", "5 0 1"}, // premise by premise
		{same, "P(y); {P(y)} R(y) => all x P(x) & R(y)", "4 0 0"},
		// premises that may have no other assumptions
		{boxI2, "[]P; []Q; {P; Q} S / P => []S", "7 2 0"},
		{boxI2, "[]P; []Q; {P; Q} S / R + S => []S", "7 2 0"},
		{"closed ?A; closed ?B => ?A & ?B", "P; Q / R => P & Q", "7 1 0"},
		{"closed ?A; closed ?B => ?A & ?B", "P / R; Q / R => P & Q", "7 0 0"},
		{both, "P(y) / R(y) => all x P(x)", "5 0 0"},
		{both, "P(y) / R => all x P(x)", "7 0 0"},
		{both, "P(y, y) / R => all x P(x, y)", "4 0 0"},
		{both, "Q / R(y) => all x Q", "7 0 0"},
		{same, "P(y) / P; {P(y)} R / Q => all x P(x) & R", "7 1 0"},
		{"closed ?A; fresh ?a ?B[?a/x] => ?A & all x ?B", "P / R; P(a) => P & all x P(x)", "7 0 0"}, // ahead of a fresh name of a later one
		{"closed fresh ?a ?B[?a/x]; closed ?A => ?A & all x ?B", "P(y) / R(y); P / R => P & all x P(x)", "5 0 0"},
	} {
		concl, l := steps(c.step)
		b, fault, errno := Apply(rules(c.rule), concl, l)
		if !empty(b) || showFault(fault) != c.want || errno != 80 {
			t.Errorf("%s, %s: %s, fault %v, error %d", c.rule, c.step, showBinding(b), fault, errno)
		}
	}
}

// P8.2: arguments that are not right, ahead of all faults.
func TestApplyArguments(t *testing.T) {
	const text = "some x P(x) / R + R; {P(y); -} Q / R + S => Q"
	twice := rules("some x ?A; fresh ?a {?A[?a/x]; ?C} ?C => ?C")
	if concl, l := steps(text); checkApply(twice, concl, l) != api.OK {
		t.Fatal("the step without changes is not accepted")
	}
	for _, wrong := range []api.Form{{}, {Op: 99}, form("?A"), form("P & ?A[?t/x]"), form("P(?t)"), form("P(?x)"), atom("p"), nots(40, form("P")), conjunction(201, form("P")), nots(deep, form("P"))} {
		for i, spoilt := range []func(concl *api.Form, l []Got){
			func(concl *api.Form, _ []Got) { *concl = wrong },
			func(_ *api.Form, l []Got) { l[0].Concl = wrong },
			func(_ *api.Form, l []Got) { l[1].Concl = wrong },
			func(_ *api.Form, l []Got) { l[1].Hyps[0].Form = wrong },
			func(_ *api.Form, l []Got) { l[1].Hyps[1] = Hyp{true, wrong} },
			func(_ *api.Form, l []Got) { l[0].Rest[0] = wrong },
			func(_ *api.Form, l []Got) { l[1].Rest[1] = wrong },
			func(_ *api.Form, l []Got) { l[0].Hyps = []Hyp{{}, {true, wrong}} }, // where there is a fault, too
		} {
			concl, l := steps(text)
			spoilt(&concl, l)
			b, fault, errno := Apply(twice, concl, l)
			if !empty(b) || fault != (Fault{}) || errno != api.ErrArg {
				t.Errorf("op %d at %d: fault %v, error %d", wrong.Op, i, fault, errno)
			}
			if errno := checkApply(twice, concl, append(l, l...)); errno != api.ErrArg {
				t.Errorf("op %d at %d, with too many premises: error %d", wrong.Op, i, errno)
			}
		}
		concl, l := steps(text)
		if l[1].Hyps[1].Form = wrong; checkApply(twice, concl, l) != api.OK {
			t.Errorf("op %d in an assumption that is not there matters", wrong.Op)
		}
	}
	for _, wrong := range []string{"{?A} ?B => ?B", "fresh ?a ?B => ?B", "?A; ?A; ?A; ?A; ?A => ?A", "{?A; ?A; ?A; ?A} ?A => ?A"} {
		concl, l := steps("{P} Q => Q")
		b, fault, errno := Apply(rules(wrong), concl, l)
		if !empty(b) || fault != (Fault{}) || errno != api.ErrArg {
			t.Errorf("%s: fault %v, error %d", wrong, fault, errno)
		}
	}
	if errno := checkApply(api.Rule{}, form("P"), nil); errno != api.ErrArg {
		t.Errorf("a zero rule: error %d", errno)
	}
}

func checkApply(r api.Rule, concl api.Form, l []Got) api.Errno {
	_, _, errno := Apply(r, concl, l)
	return errno
}

// P8.2: formulas at the limits, and many assumptions.
func TestApplyLimits(t *testing.T) {
	big := nots(38, form("P"))
	wide := conjunction(199, form("P"))
	var rest []api.Form
	for range 5000 {
		rest = append(rest, form("R(x)"))
	}
	for _, f := range []api.Form{big, wide} {
		b, fault, errno := Apply(rules(impI), api.Form{Op: api.OpImp, Sub: []api.Form{f, form("Q")}}, []Got{{form("Q"), []Hyp{{true, f}}, rest}})
		if got, _ := match.Form(b, "?A"); !syntax.Same(got, f) || errno != api.OK {
			t.Errorf("%d nodes: fault %v, error %d", syntax.Nodes(f), fault, errno)
		}
	}
	step := []Got{{form("P(y)"), nil, append(rest, form("P(y)"))}}
	if _, fault, errno := Apply(rules(allI), form("all x P(x)"), step); showFault(fault) != "5 0 5000" || errno != ErrStep {
		t.Errorf("fault %v, error %d", fault, errno)
	}
}

// P8.2: steps that are drawn, against the chapter's text put down anew.
func TestApplyDrawn(t *testing.T) {
	d := fixed(2)
	counts := map[uint8]int{}
	for i := range 16000 {
		r := d.rightRule()
		if i%2 == 0 {
			r = rules(d.of(allI, someE, two, same, both, other, boxI2))
		}
		concl, l, ok := d.step(r)
		if !ok {
			continue
		}
		b, fault, errno := Apply(r, concl, l)
		wantBinding, want := applyModel(r, concl, l)
		wantErrno := ErrStep
		if want.Kind == 0 {
			wantErrno = api.OK
		}
		if fault != want || errno != wantErrno || showBinding(b) != showBinding(wantBinding) {
			t.Fatalf("%s, %s: fault %v, not %v, error %d", showRule(r), showStep(concl, l), fault, want, errno)
		}
		counts[fault.Kind]++
	}
	for kind, least := range []int{0: 1000, FaultPrems: 100, FaultMatch: 500, FaultVar: 100, FaultConcl: 100, FaultRest: 50, FaultBound: 30, FaultClosed: 100} {
		checkMany(t, "fault "+showFault(Fault{Kind: uint8(kind)}), counts[uint8(kind)], least)
	}
}

// step draws a step that is often one by a rule, and whether there is one.
func (d draws) step(r api.Rule) (api.Form, []Got, bool) {
	b := d.binding()
	concl, errno := match.Fill(r.Concl, b)
	if errno != api.OK {
		return api.Form{}, nil, false
	}
	prems, _, errno := Back(r, concl, b, nil)
	if errno != api.OK {
		return api.Form{}, nil, false
	}
	l := step(prems)
	for i, g := range l {
		for range d.IntN(2) * d.IntN(3) {
			l[i].Rest = append(l[i].Rest, d.form(2, "x", "y", "x1"))
		}
		for j := range g.Hyps {
			switch d.IntN(12) {
			case 0:
				g.Hyps[j] = Hyp{}
			case 1:
				g.Hyps[j] = Hyp{false, api.Form{Op: 99}}
			case 2:
				g.Hyps[j].Form = d.form(2, "x", "y")
			}
		}
		if d.IntN(20) == 0 {
			l[i].Concl = d.form(2, "x", "y")
		}
		if d.IntN(40) == 0 {
			l[i].Hyps = append(l[i].Hyps, Hyp{})
		}
	}
	switch d.IntN(40) {
	case 0:
		concl = d.form(3, "x", "y")
	case 1:
		l = append(l, Got{Concl: form("P")})
	case 2:
		l = l[:len(l)/2]
	}
	return concl, l, true
}

// applyModel is what Apply returns for a rule and formulas that are right.
func applyModel(r api.Rule, concl api.Form, l []Got) (match.Binding, Fault) {
	if len(l) != len(r.Prems) {
		return match.Binding{}, Fault{FaultPrems, 0, 0}
	}
	var pairs []match.Pair
	var at [][2]int
	add := func(schema, f api.Form, prem, index int) {
		pairs = append(pairs, match.Pair{Schema: schema, Form: f})
		at = append(at, [2]int{prem, index})
	}
	for i := range l {
		if len(l[i].Hyps) != len(r.Prems[i].Hyps) {
			return match.Binding{}, Fault{FaultPrems, i, 0}
		}
		add(r.Prems[i].Concl, l[i].Concl, i, 0)
	}
	for i := range l {
		for j := range l[i].Hyps {
			if l[i].Hyps[j].Some {
				add(r.Prems[i].Hyps[j], l[i].Hyps[j].Form, i, j+1)
			}
		}
	}
	add(r.Concl, concl, len(l), 0)
	b, i, errno := match.Matches(pairs, match.Binding{})
	if errno != api.OK {
		return match.Binding{}, Fault{FaultMatch, at[i][0], at[i][1]}
	}
	for i := range l {
		if fault := premiseModel(r.Prems[i], concl, l[i].Rest, b, i); fault.Kind != 0 {
			return match.Binding{}, fault
		}
	}
	return b, Fault{}
}

// premiseModel is the first fault of a premise. That a variable is free is found by putting something for it.
func premiseModel(p api.Prem, concl api.Form, rest []api.Form, b match.Binding, i int) Fault {
	for _, found := range b.Terms {
		if found.Name != p.Fresh {
			continue
		}
		if found.Term.Name == "" || found.Term.Name[0] < 'u' || found.Term.Name[0] > 'z' {
			return Fault{FaultVar, i, 0}
		}
		changes := func(f api.Form) bool {
			f = changedForm(f, func(t api.Term) api.Term { // layer 3 knows no placeholders
				if t.Name[0] == '?' {
					return variable("w99")
				}
				return t
			})
			g, errno := subst.Put(f, found.Term.Name, api.Term{Name: "other"})
			return errno != api.OK || !syntax.Same(f, g)
		}
		if changes(concl) {
			return Fault{FaultConcl, i, 0}
		}
		for k, f := range rest {
			if changes(f) {
				return Fault{FaultRest, i, k}
			}
		}
		for k, f := range b.Forms {
			if changes(f.Form) {
				return Fault{FaultBound, i, k}
			}
		}
	}
	if p.Closed && len(rest) > 0 {
		return Fault{FaultClosed, i, 0}
	}
	return Fault{}
}

// P8.2: arguments are not changed, and what Apply returns is in memory of its own.
func TestApplyMemory(t *testing.T) {
	r := rules(someE)
	concl, l := steps("some x P(f(x), g(z)); {P(f(y), g(z))} all x Q(x, f(z)) / R(x) => all x Q(x, f(z))")
	text, ruleText := showStep(concl, l), showRule(r)
	b, _, errno := Apply(r, concl, l)
	want := showBinding(b)
	if errno != api.OK {
		t.Fatal(errno)
	}
	spoilBinding(b)
	if showStep(concl, l) != text || showRule(r) != ruleText {
		t.Error("the arguments have changed")
	}
	if again, _, _ := Apply(r, concl, l); showBinding(again) != want {
		t.Error("the second result is another one")
	}
	again, _, _ := Apply(r, concl, l)
	for f := range formulas(concl, l) {
		spoil(f)
	}
	if showBinding(again) != want {
		t.Error("the result shares memory with an argument")
	}
}
