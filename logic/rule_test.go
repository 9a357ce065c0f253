package logic

import (
	"slices"
	"strings"
	"testing"

	"lyceum/api"
	"lyceum/match"
)

// P9.3: each rule of the library is found by its name, and no other.
func TestRule(t *testing.T) {
	all := table(propositionalTable + raaTable + quantifierTable + modalTable + boxETable + box4Table + dia5Table + timeTable)
	if len(all) != 44 {
		t.Fatalf("%d rules", len(all))
	}
	for _, m := range libraryModel {
		l := named(t, m.name)
		its := table(m.rules)
		for _, want := range all {
			r, errno := Rule(l, want.Name)
			if !slices.ContainsFunc(its, func(r api.Rule) bool { return r.Name == want.Name }) {
				if errno != api.ErrNone || !zeroRule(r) {
					t.Errorf("%s of %s: %s, error %d", want.Name, m.name, showRule(r), errno)
				}
			} else if errno != api.OK || !sameRule(r, want) {
				t.Errorf("%s of %s: %s, error %d", want.Name, m.name, showRule(r), errno)
			}
		}
	}
}

// P9.3: names of no rule, and logics that are not right.
func TestNoRule(t *testing.T) {
	l := named(t, "K1")
	for _, name := range []string{"", "andi", "andI ", "andE", "allI", "K1", "?A", strings.Repeat("andI", deep)} {
		if r, errno := Rule(l, name); errno != api.ErrNone || !zeroRule(r) {
			t.Errorf("%.20q: %s, error %d", name, showRule(r), errno)
		}
	}
	for i, wrong := range wrongLogics(l) {
		for _, name := range []string{"andI", "none", ""} {
			if r, errno := Rule(wrong, name); errno != api.ErrArg || !zeroRule(r) {
				t.Errorf("%q of wrong logic %d: %s, error %d", name, i, showRule(r), errno)
			}
		}
		if names, errno := Fits(wrong, atom("P")); errno != api.ErrArg || len(names) != 0 {
			t.Errorf("P in wrong logic %d: %q, error %d", i, names, errno)
		}
		if Allowed(wrong, atom("P")) || Right(wrong) {
			t.Errorf("wrong logic %d is right", i)
		}
	}
}

// wrongLogics returns logics that are wrong in one thing each, and otherwise as one that is right.
func wrongLogics(l api.Logic) []api.Logic {
	var list []api.Logic
	for _, spoilt := range []func(l *api.Logic){
		func(l *api.Logic) { *l = api.Logic{} },
		func(l *api.Logic) { l.Name = "" },
		func(l *api.Logic) { l.Name = "1K" },
		func(l *api.Logic) { l.Kind = 0 },
		func(l *api.Logic) { l.Kind = 6 },
		func(l *api.Logic) { l.Ops &^= 1 << api.OpAtom },
		func(l *api.Logic) { l.Ops &^= 1 << api.OpAnd },
		func(l *api.Logic) { l.Ops |= 1 << api.OpBox },
		func(l *api.Logic) { l.Ops |= 1 },
		func(l *api.Logic) { l.Frame = api.FrameReflexive },
		func(l *api.Logic) { l.Rules = append(l.Rules, l.Rules[0]) },
		func(l *api.Logic) { l.Rules[3].Name = "" },
		func(l *api.Logic) { l.Rules[14].Prems[0].Hyps[0] = form("[]?A") },
		func(l *api.Logic) { l.Rules = append(l.Rules, api.Rule{}) },
		func(l *api.Logic) { l.Rules = make([]api.Rule, 65) },
	} {
		wrong := copiedLogic(l)
		spoilt(&wrong)
		list = append(list, wrong)
	}
	return list
}

// P9.3: rules whose conclusion a formula can be.
func TestFits(t *testing.T) {
	const any1 = "andE1 andE2 orE impE falseE iffE1 iffE2" // of any formula
	for _, c := range []struct{ logic, text, want string }{
		{"K1", "P & Q", "andI andE1 andE2 orE impE falseE iffE1 iffE2 raa"}, // the chapter's example
		{"K1", "P", any1 + " raa"},
		{"K1", "P | Q", "andE1 andE2 orI1 orI2 orE impE falseE iffE1 iffE2 raa"},
		{"K1", "P -> Q", "andE1 andE2 orE impI impE falseE iffE1 iffE2 raa"},
		{"K1", "~P", "andE1 andE2 orE impE notI falseE iffE1 iffE2 raa"},
		{"K1", "false", "andE1 andE2 orE impE notE falseE iffE1 iffE2 raa"},
		{"K1", "P <-> Q", "andE1 andE2 orE impE falseE iffI iffE1 iffE2 raa"},
		{"J", "P", any1},
		{"J", "~P", "andE1 andE2 orE impE notI falseE iffE1 iffE2"},
		{"K2", "P(x)", any1 + " raa allE someE"},
		{"K2", "all y P(y)", any1 + " raa allI allE someE"},
		{"K2", "some x P", any1 + " raa allE someI someE"},
		{"K", "[]P", any1 + " raa boxI0 boxI1 boxI2 boxI3"},
		{"K", "<>P", any1 + " raa diaI"},
		{"K", "~[]~P", "andE1 andE2 orE impE notI falseE iffE1 iffE2 raa diaE"},
		{"K", "~[]P", "andE1 andE2 orE impE notI falseE iffE1 iffE2 raa"},
		{"T", "[]P", any1 + " raa boxI0 boxI1 boxI2 boxI3 boxE"},
		{"S4", "[]P", any1 + " raa boxI0 boxI1 boxI2 boxI3 boxE"},
		{"S4", "[][]P", any1 + " raa boxI0 boxI1 boxI2 boxI3 boxE box4"},
		{"S5", "[]<>P", any1 + " raa boxI0 boxI1 boxI2 boxI3 boxE dia5"},
		{"S5", "[][]<>P", any1 + " raa boxI0 boxI1 boxI2 boxI3 boxE box4"},
		{"L", "next P", any1 + " raa nextI0 nextI1 nextI2 nextI3 alwE untE"},
		{"L", "next ~P", any1 + " raa nextI0 nextI1 nextI2 nextI3 nextN1 alwE untE"},
		{"L", "~next P", "andE1 andE2 orE impE notI falseE iffE1 iffE2 raa nextN2 alwE untE"},
		{"L", "next always P", any1 + " raa nextI0 nextI1 nextI2 nextI3 alwE alwX untE"},
		{"L", "always P", any1 + " raa alwI0 alwI1 alwI2 alwI3 alwE ind untE"},
		{"L", "P until Q", any1 + " raa alwE untI1 untI2 untE"},
	} {
		names, errno := Fits(named(t, c.logic), form(c.text))
		if strings.Join(names, " ") != c.want || errno != api.OK {
			t.Errorf("%s in %s: %q, error %d", c.text, c.logic, names, errno)
		}
	}
}

// P9.3: rules of other logics, where a metavariable stands twice, or with a term.
func TestFitsConditions(t *testing.T) {
	for _, c := range []struct {
		kind         uint8
		concls, text string
		want         string
	}{
		{1, "?A -> ?A; ?B -> ?A; ?A", "P -> Q", "r2 r3"},
		{1, "?A -> ?A; ?B -> ?A; ?A", "P -> P", "r1 r2 r3"},
		{1, "P; Q; P & ?A; Q & ?A", "P & Q", "r3"},
		{1, "P; Q; ~P", "Q", "r2"},
		{1, "", "P", ""},
		{1, "~P", "P", ""}, // no rule fits, which is no error
		{2, "?A -> ?A", "all x (P(x) -> all y P(y))", ""},
		{2, "?A -> ?A", "(all x P(x)) -> all y P(y)", "r1"},
		{2, "?A[?t/x]; ?A[?t/x] & P; ?A[?t/x] & Q(x)", "Q(x)", "r1"},                 // not known yet, which fits
		{2, "?A[?t/x]; ?A[?t/x] & P; ?A[?t/x] & Q(x)", "Q & Q(x)", "r1 r3"},          // ErrLater, but what does not match comes first
		{2, "?A & ?A[?t/x]; all x (?A & ?A[?t/x])", "P(a) & P(b)", ""},               // known, and another formula
		{2, "?A & ?A[?t/x]", "P(a) & P(a)", "r1"},                                    //
		{2, "(all x ?A) & ?A[?t/x]", "(all y P(y, y)) & P(a, b)", ""},                // no term makes it so
		{2, "(all x ?A) & ?A[?t/x]", "(all y P(y, y)) & P(f(a), f(a))", "r1"},        //
		{2, "all x (?A & ?B); (all x ?A) & ?A", "all x (P(x) & Q)", "r1"},            //
		{2, "(all x ?A) & ?A", "(all y P) & P", "r1"},                                //
		{2, "(all x ?A) & ?A", "(all y P(y)) & P(y)", ""},                            // outside of its quantifier
		{2, "all x P(x); all x P(a); all x ?A", "all y P(y)", "r1 r3"},               //
		{2, "P(?t, ?t); P(?t, ?s); P(x, ?t)", "P(a, a)", "r1 r2"},                    //
		{2, "P(?t, ?t); P(?t, ?s); P(x, ?t)", "P(x, f(x))", "r2 r3"},                 //
		{4, "[]?A; <>?A; []?A & ?A", "[]P & P", "r3"},                                //
		{5, "?A until ?A; next ?A until ?A", "next P until P", "r2"},                 //
		{5, "?A until (?B until ?A)", "P until Q until P", "r1"},                     //
		{3, "?A | ~?A; ~~?A -> ?A; ~?A | ~~?A", "~P | ~~P", "r1 r3"},                 //
		{3, "?A | ~?A; ~~?A -> ?A; ~?A | ~~?A", "~~(P & Q) -> P & Q", "r2"},          //
		{3, "?A | ~?A; ~~?A -> ?A; ~?A | ~~?A", "~~(P & Q) -> Q & P", ""},            //
		{1, "?A; ?A; ?A; ?A; ?A; ?A; ?A; ?A; ?A", "P", "r1 r2 r3 r4 r5 r6 r7 r8 r9"}, // all of them, in order
	} {
		var concls []string
		if c.concls != "" {
			concls = strings.Split(c.concls, ";")
		}
		l := logicOf(c.kind, concls...)
		if !Right(l) {
			t.Fatalf("the logic of %s is not right", c.concls)
		}
		names, errno := Fits(l, form(c.text))
		if strings.Join(names, " ") != c.want || errno != api.OK {
			t.Errorf("%s with %s: %q, error %d", c.text, c.concls, names, errno)
		}
	}
}

// P9.3: what is no formula of the logic.
func TestFitsArguments(t *testing.T) {
	for _, name := range Names() {
		l := named(t, name)
		for _, wrong := range []api.Form{{}, {Op: 99}, form("?A"), form("?A[?t/x]"), form("P(?t)"), atom("p"), atom("P", variable("?x")), form("P(a, b, c)"), form("P(f(a, b))"), form("[]next P"), form("all x []P"), form("all x next P"), nots(40, atom("P")), conjunction(201, atom("P")), nots(deep, atom("P"))} {
			if names, errno := Fits(l, wrong); errno != api.ErrArg || len(names) != 0 {
				t.Errorf("op %d in %s: %q, error %d", wrong.Op, name, names, errno)
			}
		}
		for _, right := range []api.Form{nots(39, atom("P")), conjunction(200, atom("P"))} {
			if names, errno := Fits(l, right); errno != api.OK || len(names) < 7 {
				t.Errorf("a formula at the limits in %s: %q, error %d", name, names, errno)
			}
		}
	}
	for name, text := range map[string]string{"K1": "[]P", "J": "all x P", "K": "P(x)", "T": "next P", "L": "<>P", "S5": "P until Q", "K2": "[]P"} {
		if names, errno := Fits(named(t, name), form(text)); errno != api.ErrArg || len(names) != 0 {
			t.Errorf("%s in %s: %q, error %d", text, name, names, errno)
		}
	}
}

// P9.3: formulas that are drawn, against the shapes of the conclusions of the library, in which no metavariable stands twice; bound names do not matter.
func TestFitsDrawn(t *testing.T) {
	d := fixed(4)
	fitting := 0
	for i := range 2000 {
		m := libraryModel[i%len(libraryModel)]
		args := 0
		if m.kind == api.KindFinite {
			args = 2
		}
		f := d.form(4, args, m.ops[1:])
		l := named(t, m.name)
		if !Allowed(l, f) {
			continue
		}
		var want []string
		for _, r := range table(m.rules) {
			if shaped(r.Concl, f) {
				want = append(want, r.Name)
			}
		}
		names, errno := Fits(l, f)
		if !slices.Equal(names, want) || errno != api.OK {
			t.Fatalf("%s in %s: %q instead of %q, error %d", show(f), m.name, names, want, errno)
		}
		g := d.renamed(f)
		if again, errno := Fits(l, g); !slices.Equal(again, want) || errno != api.OK {
			t.Fatalf("%s, as %s, in %s: %q instead of %q, error %d", show(f), show(g), m.name, again, want, errno)
		}
		fitting += len(names) - 7
	}
	checkMany(t, "rules beside those that fit all", fitting, 2000)
}

// shaped reports whether a formula has the operators of a schema.
func shaped(schema, f api.Form) bool {
	if schema.Op == api.OpMeta || schema.Op == api.OpInst {
		return true
	}
	return schema.Op == f.Op && slices.EqualFunc(schema.Sub, f.Sub, shaped)
}

// P9.3: the names are those of the rules that match.Match lets pass, for rules that are drawn.
func TestFitsMatch(t *testing.T) {
	d := fixed(5)
	schemas := []string{"?A", "?B", "P", "P(x)", "?A[?t/x]", "?B[?t/y]", "Q(?t)"}
	with, without := 0, 0
	for range 8000 {
		draw := func() string { return schemas[d.IntN(len(schemas))] }
		var concls []string
		for range d.IntN(5) {
			sign := []string{" & ", " -> "}[d.IntN(2)]
			concls = append(concls, []string{"", "all x ", "some y "}[d.IntN(3)]+"("+draw()+sign+draw()+")")
		}
		l := logicOf(api.KindFinite, concls...)
		f := d.form(3, 2, []uint8{4, 6, 8, 9})
		names, errno := Fits(l, f)
		if !Allowed(l, f) {
			if errno != api.ErrArg || len(names) != 0 {
				t.Fatalf("%s: %q, error %d", show(f), names, errno)
			}
			continue
		}
		for _, r := range l.Rules {
			_, e := match.Match(r.Concl, f, match.Binding{})
			want := e == api.OK || e == match.ErrLater
			if slices.Contains(names, r.Name) != want {
				t.Fatalf("%s with %s: %q", show(f), show(r.Concl), names)
			}
			if want {
				with++
			} else {
				without++
			}
		}
		if !slices.IsSorted(names) || errno != api.OK {
			t.Fatalf("%s: %q, error %d", show(f), names, errno)
		}
	}
	checkMany(t, "fits", with, 200)
	checkMany(t, "does not fit", without, 200)
}

// All promises: arguments stay as they are, and results share no memory with them.
func TestArguments(t *testing.T) {
	for _, m := range libraryModel {
		l := named(t, m.name)
		l.Rules = append(slices.Grow(l.Rules, 3), api.Rule{Name: "spare"})[:len(l.Rules)]
		want := copiedLogic(l)
		f := formOf(m.ops[len(m.ops)-1])
		text := show(f)
		for _, r := range want.Rules {
			got, _ := Rule(l, r.Name)
			again, _ := Rule(l, r.Name)
			spoilRule(got)
			if !sameRule(again, r) {
				t.Errorf("two results for %s share memory", r.Name)
			}
			spoilRule(again)
		}
		names, _ := Fits(l, f)
		for i := range names {
			names[i] = "spoilt"
		}
		if !Right(l) || !Allowed(l, f) || !sameLogic(l, want) || show(f) != text {
			t.Errorf("%s or %s has changed", m.name, text)
		}
		if l.Rules[:len(l.Rules)+1][len(l.Rules)].Name != "spare" {
			t.Errorf("the spare capacity of %s has changed", m.name)
		}
	}
}
