package subst

import (
	"slices"
	"strings"
	"testing"

	"lyceum/api"
	"lyceum/syntax"
)

// P3.3: pairs of right formulas, both ways round; formulas are equal up to bound names if their normal forms are equal, and only then (P3.4).
func TestAlpha(t *testing.T) {
	for _, c := range []struct {
		a, b string
		want bool
	}{
		{"P", "P", true},
		{"P", "Q", false},
		{"P(x)", "P(x)", true},
		{"P(x)", "P(y)", false},
		{"P(x)", "P(x, x)", false},
		{"P(f(a))", "P(f(b))", false},
		{"P(a)", "P(x)", false},
		{"P(f(x))", "P(f(x, x))", false},
		{"P", "~P", false},
		{"(P & Q)", "(P | Q)", false},
		{"(P & Q)", "(Q & P)", false},
		{"all x P(x)", "all y P(y)", true},
		{"all x P(x)", "some x P(x)", false},
		{"all x P(x)", "some y P(y)", false},
		{"all x P(x)", "P(x)", false},
		{"all x P(x)", "all y P(x)", false},
		{"all x P(y)", "all z P(y)", true},
		{"all x P(y)", "all y P(y)", false},
		{"all x P(x, y)", "all z P(z, y)", true},
		{"all x P(x, y)", "all y P(y, y)", false},
		{"all x P(x, y)", "all y P(y, x)", false},
		{"all x some y R(x, y)", "all y some x R(y, x)", true},
		{"all x some y R(x, y)", "all x some y R(y, x)", false},
		{"all x some y R(x, y)", "all x some x R(x, x)", false},
		{"all x some x R(x, x)", "all y some x R(x, x)", true},
		{"all x some x R(x, x)", "all x some y R(y, y)", true},
		{"all x some x R(x, x)", "all x some y R(x, x)", false},
		{"all x all y all x P(x)", "all x all x all x P(x)", true},
		{"all x all y all x P(x, y)", "all z all x all y P(y, x)", true},
		{"(all x P(x) & P(x))", "(all y P(y) & P(x))", true},
		{"(all x P(x) & P(x))", "(all y P(y) & P(y))", false},
		{"(all x P(x) & all x Q(x))", "(all x P(x) & all y Q(y))", true},
		{"all x (all y P(x) & P(x))", "all y (all x P(y) & P(y))", true},
		{"all x (all y P(y) & P(y))", "all y (all x P(x) & P(x))", false},
		{"all x P(f(x, g(x, y)))", "all z P(f(z, g(z, y)))", true},
		{"all x P(f(x, g(x, y)))", "all z P(f(z, g(y, z)))", false},
		{"[]all x P(x)", "[]all x1 P(x1)", true},
		{"all x P(x, x1)", "all x1 P(x1, x1)", false},
	} {
		f, g := form(c.a), form(c.b)
		if Alpha(f, g) != c.want || Alpha(g, f) != c.want {
			t.Errorf("%s and %s: %v, the other way round %v", c.a, c.b, Alpha(f, g), Alpha(g, f))
		}
		m, e := Normal(f)
		n, d := Normal(g)
		if e != api.OK || d != api.OK || syntax.Same(m, n) != c.want {
			t.Errorf("the normal forms of %s and %s: %v, %v", c.a, c.b, m, n)
		}
	}
}

// P3.3: what is not right is equal to nothing, and has no normal form.
func TestAlphaOfWhatIsNotRight(t *testing.T) {
	right := form("all x P(x)")
	meta := api.Form{Op: api.OpMeta, Name: "?A"}
	for _, c := range []struct {
		what string
		f    api.Form
	}{
		{"the zero formula", api.Form{}},
		{"a schema", meta},
		{"a schema deep inside", nots(10, meta)},
		{"a quantifier of a function", form("all a P(a)")},
		{"a quantifier without a name", api.Form{Op: api.OpAll, Sub: right.Sub}},
		{"a quantifier without a Sub", api.Form{Op: api.OpAll, Name: "x"}},
		{"a quantifier with two Sub", api.Form{Op: api.OpAll, Name: "x", Sub: []api.Form{right, right}}},
		{"a quantifier with an argument", api.Form{Op: api.OpAll, Name: "x", Args: []api.Term{variable("x")}, Sub: right.Sub}},
		{"a bound placeholder", api.Form{Op: api.OpAll, Name: "?x", Sub: []api.Form{{Op: api.OpAtom, Name: "P", Args: []api.Term{variable("?x")}}}}},
		{"a free placeholder", api.Form{Op: api.OpAtom, Name: "P", Args: []api.Term{variable("?x")}}},
		{"401 nodes", conjunction(201, form("P"))},
		{"41 levels", nots(40, form("P"))},
		{"very many levels", nots(deep, right)},
	} {
		if Alpha(c.f, c.f) || Alpha(c.f, right) || Alpha(right, c.f) {
			t.Errorf("%s is equal to something", c.what)
		}
		got, e := Normal(c.f)
		checkForm(t, c.what, got, e, api.Form{}, api.ErrArg)
	}
}

// P3.3: a right formula and one that is not, although they differ in the name of a quantifier alone.
func TestAlphaAsksBoth(t *testing.T) {
	f, g := form("all x P(x)"), form("all a P(x)")
	g.Sub[0].Args[0] = variable("a")
	if Alpha(f, g) || Alpha(g, f) {
		t.Error("they are equal")
	}
}

// P3.3: the limits of right formulas.
func TestAlphaLimits(t *testing.T) {
	for _, c := range []struct {
		what string
		f, g api.Form
	}{
		{"40 levels", nots(36, form("all x P(f(x))")), nots(36, form("all y P(f(y))"))},
		{"399 nodes", conjunction(100, form("all x Q")), conjunction(100, form("all y Q"))},
		{"many quantifiers around each other", form(strings.Repeat("all x some y ", 19) + "P(x, y)"), form(strings.Repeat("all y some x ", 19) + "P(y, x)")},
	} {
		m, e := Normal(c.f)
		n, d := Normal(c.g)
		if !Alpha(c.f, c.g) || e != api.OK || d != api.OK || !syntax.Same(m, n) || !syntax.Right(m) {
			t.Errorf("%s: equal %v, %d, %d", c.what, Alpha(c.f, c.g), e, d)
		}
	}
}

// P3.3: the chapter's example, and other normal forms.
func TestNormal(t *testing.T) {
	for _, c := range []struct{ f, want string }{
		{"all y (P(y) -> some z R(y, z, x1))", "all x2 (P(x2) -> some x3 R(x2, x3, x1))"},
		{"P(y)", "P(y)"},
		{"all x1 P(x1)", "all x1 P(x1)"},
		{"all x P(x)", "all x1 P(x1)"},
		{"some x Q", "some x1 Q"},
		{"all x2 some x1 P(x1, x2)", "all x1 some x2 P(x2, x1)"},
		{"(all x P(x) & all y P(y))", "(all x1 P(x1) & all x1 P(x1))"},
		{"all z (all x P(x, z) & all y P(z, y))", "all x1 (all x2 P(x2, x1) & all x2 P(x1, x2))"},
		{"(all x P(x) & P(x1))", "(all x2 P(x2) & P(x1))"}, // free in the whole formula, not in the quantifier
		{"(P(x2) | all x some y R(x, y))", "(P(x2) | all x1 some x3 R(x1, x3))"},
		{"(all x1 P(x1) & all x2 P(x1))", "(all x2 P(x2) & all x2 P(x1))"},
		{"all x some x P(x)", "all x1 some x2 P(x2)"},
		{"all x (some x P(x) & P(x))", "all x1 (some x2 P(x2) & P(x1))"},
		{"all x all y all x R(x, y)", "all x1 all x2 all x3 R(x3, x2)"},
		{"all u ~all v [](P(f(u, g(v))) U some w Q(w, u, x01))", "all x1 ~all x2 [](P(f(x1, g(x2))) U some x3 Q(x3, x1, x01))"},
	} {
		got, e := Normal(form(c.f))
		checkForm(t, c.f, got, e, form(c.want), api.OK)
	}
}

// P3.3: in any formula each quantifier has the least name that is neither free nor around it, and nothing is captured.
func TestNormalNames(t *testing.T) {
	d := fixed(1)
	for range 1000 {
		f := d.form(5)
		g, e := Normal(f)
		if e != api.OK || !syntax.Same(nameless(f), nameless(g)) {
			t.Fatalf("the normal form of %v is %v, %d", f, g, e)
		}
		checkLeast(t, g, Free(f))
		again, _ := Normal(g)
		checkForm(t, "again", again, api.OK, g, api.OK)
	}
}

// checkLeast tests that each quantifier has the least name that is not taken.
func checkLeast(t *testing.T, f api.Form, taken []string) {
	t.Helper()
	if f.Op == api.OpAll || f.Op == api.OpSome {
		if want := Fresh(taken); f.Name != want {
			t.Errorf("%v has not the name %s", f, want)
		}
		taken = append(slices.Clone(taken), f.Name)
	}
	for _, part := range f.Sub {
		checkLeast(t, part, taken)
	}
}

// P3.3, P3.4: formulas are equal up to bound names if and only if they are equal without names, and if and only if their normal forms are equal.
func TestAlphaAndNormal(t *testing.T) {
	d := fixed(2)
	count := map[bool]int{}
	for range 3000 {
		f, g := d.form(2), d.form(2)
		if d.IntN(2) == 0 {
			g = d.other(f)
		}
		want := syntax.Same(nameless(f), nameless(g))
		m, _ := Normal(f)
		n, _ := Normal(g)
		if Alpha(f, g) != want || syntax.Same(m, n) != want {
			t.Fatalf("%v and %v: %v, with the normal forms %v and %v", f, g, Alpha(f, g), m, n)
		}
		if !syntax.Same(f, g) {
			count[want]++
		}
	}
	if count[true] < 200 || count[false] < 200 {
		t.Errorf("pairs that are not the same: %v", count)
	}
}

// P3.3: the argument stays as it is, and the result has memory of its own.
func TestNormalMemory(t *testing.T) {
	for _, text := range []string{example, "P(x, f(a))", "(all x P(f(x)) -> some y ~P(f(y)))"} {
		f := form(text)
		g, _ := Normal(f)
		checkForm(t, "the argument", f, api.OK, form(text), api.OK)
		checkOwn(t, text, memory(f), memory(g))
	}
}
