package subst

import (
	"slices"
	"strconv"
	"strings"
	"testing"

	"lyceum/api"
	"lyceum/syntax"
)

// P3.2: terms are put all at once, the first one that there is for a Name.
func TestPutTerm(t *testing.T) {
	for _, c := range []struct{ u, l, want string }{
		{"x", "x: f(a)", "f(a)"},
		{"x", "", "x"},
		{"x", "y: f(a)", "x"},
		{"a", "x: b", "a"},
		{"f(x, g(y, x), a)", "x: h(x)", "f(h(x), g(y, h(x)), a)"},
		{"f(x, y)", "x: y; y: x", "f(y, x)"},
		{"f(x, y, z)", "x: g(y); y: g(z); z: g(x)", "f(g(y), g(z), g(x))"},
		{"f(x, y)", "x: a; x: b; y: c; x: d; y: e", "f(a, c)"},
		{"f(y, x)", "y: b; x: a; x: c; y: d", "f(b, a)"},
		{"f(x10, x2, x1, x)", "x: a; x1: b; x2: c; x10: d", "f(d, c, b, a)"},
		{"f(x10, x2, x1, x)", "x10: d; x2: c; x: a", "f(d, c, x1, a)"},
	} {
		if got, want := PutTerm(term(c.u), list(c.l)), term(c.want); !syntax.SameTerm(got, want) {
			t.Errorf("%s with %s: %v, not %v", c.u, c.l, got, want)
		}
	}
}

// P3.2: terms and names that are not right.
func TestPutAnyTerm(t *testing.T) {
	odd := api.Term{Var: true, Name: "x", Args: []api.Term{variable("x"), variable("y"), {Name: "y"}}}
	for i, c := range []struct {
		u    api.Term
		l    []One
		want api.Term
	}{
		{api.Term{}, list("x: a"), api.Term{}},
		{api.Term{}, []One{{"", term("a")}}, api.Term{}},
		{api.Term{Var: true}, []One{{"", term("a")}}, term("a")},
		{api.Term{Name: "x"}, list("x: a"), api.Term{Name: "x"}},
		{api.Term{Name: "a"}, []One{{"a", term("b")}}, term("a")},
		{variable("a"), []One{{"a", term("b")}}, term("b")},
		{variable("?t"), []One{{"?t", term("f(x)")}, {"x", term("b")}}, term("f(x)")},
		{variable("?x"), list("x: a"), variable("?x")},
		{odd, list("x: b"), term("b")},
		{odd, list("y: b"), api.Term{Var: true, Name: "x", Args: []api.Term{variable("x"), term("b"), {Name: "y"}}}},
		{term("f(y)"), []One{{"y", odd}, {"x", term("b")}}, api.Term{Name: "f", Args: []api.Term{odd}}},
		{term("f(y)"), []One{{"y", api.Term{}}}, api.Term{Name: "f", Args: []api.Term{{}}}},
		{nested(deep, variable("x")), list("x: f(y)"), nested(deep+1, variable("y"))},
		{term("f(x)"), []One{{"x", nested(deep, variable("x"))}}, nested(deep+1, variable("x"))},
	} {
		if got := PutTerm(c.u, c.l); !syntax.SameTerm(got, c.want) {
			t.Errorf("case %d is wrong", i)
		}
	}
}

// P3.2: long lists are put in long terms.
func TestPutManyTerms(t *testing.T) {
	u, want := api.Term{Name: "f"}, api.Term{Name: "f"}
	var l []One
	for i := range 100000 {
		name := "y" + strconv.Itoa(i)
		u.Args = append(u.Args, variable(name))
		want.Args = append(want.Args, term("f("+name+")"))
		l = append(l, One{name, term("f(" + name + ")")}, One{name, term("a")})
	}
	if !syntax.SameTerm(PutTerm(u, l), want) {
		t.Error("something else was put")
	}
}

// P3.2: the chapter's examples, and which names quantifiers get.
func TestPuts(t *testing.T) {
	for _, c := range []struct{ f, l, want string }{
		{"(some x P(x, y) & Q(x))", "y: f(x)", "(some x1 P(x1, f(x)) & Q(x))"},
		{"(some x P(x, y) & Q(x))", "x: f(x)", "(some x P(x, y) & Q(f(x)))"},
		{example, "y: g(x1, x)", "all x2 some x3 R(x2, x3, g(x1, x))"},
		{"some x1 R(x, x1, y)", "x: x2; y: g(x1, x)", "some x3 R(x2, x3, g(x1, x))"},

		{"P(x, y)", "", "P(x, y)"},
		{"P(x, y)", "x: y; y: x", "P(y, x)"},
		{"P(x, y)", "x: f(y); y: f(x)", "P(f(y), f(x))"},
		{"(P(x) -> ~[](Q(f(x)) U P(y)))", "x: f(x)", "(P(f(x)) -> ~[](Q(f(f(x))) U P(y)))"},
		{"all x (P(x) & some y Q(x))", "x: a; y: b", "all x (P(x) & some y Q(x))"},
		{"all x P(x, y)", "y: f(z)", "all x P(x, f(z))"},
		{"all x P(x, y)", "x: y; y: a", "all x P(x, a)"},

		{"all x P(x, y)", "y: x", "all x1 P(x1, x)"},
		{"all x P(z, y)", "y: x", "all x1 P(z, x)"},      // even if nothing is bound
		{"all x P(x, y)", "z: x", "all x P(x, y)"},       // z does not count: it is not free there
		{"all x P(x, y)", "y: a; z: x", "all x P(x, a)"}, // even if another one counts
		{"all x P(x, y)", "x: x; y: a", "all x P(x, a)"}, // x itself does not
		{"all x P(x, x1)", "x1: x", "all x2 P(x2, x)"},   // x1 is free in its Sub
		{"all x P(x, y, x1, x3)", "y: x", "all x2 P(x2, x, x1, x3)"},
		{"all x P(x, y)", "y: f(x, x1, x2)", "all x3 P(x3, f(x, x1, x2))"},
		{"all x P(x, y, z)", "y: x; z: x1", "all x2 P(x2, x, x1)"}, // x1 is free in the other term
		{"all x P(x, y)", "y: x; z: x1", "all x1 P(x1, x)"},        // not in one that counts
		{"all x P(x, y)", "y: x; x: x1", "all x1 P(x1, x)"},
		{"all x P(x, x1)", "x1: f(x, x2)", "all x3 P(x3, f(x, x2))"},
		{"all x P(x, x1, y)", "x1: a; y: x", "all x2 P(x2, a, x)"}, // x1 is one that counts
		{"all x1 P(x1, y)", "y: x1", "all x2 P(x2, x1)"},
		{"all x2 P(x2, y)", "y: x2", "all x1 P(x1, x2)"},

		{"all x some x1 P(x1, x, y)", "y: x", "all x1 some x2 P(x2, x1, x)"},             // x1 is put for x, so the inner one is changed
		{"all x (some x1 P(x1, y) & P(x))", "y: x", "all x1 (some x1 P(x1, x) & P(x1))"}, // not if x is not free there
		{"all x all x P(x, y)", "y: x", "all x1 all x1 P(x1, x)"},                        // the outer one binds nothing, x is captured twice
		{"all x (all x P(x) & P(x, y))", "y: x", "all x1 (all x P(x) & P(x1, x))"},       // y is not free in the inner one
		{"all x (all z P(x, z) & P(x, y))", "y: f(x, z)", "all x1 (all z P(x1, z) & P(x1, f(x, z)))"},
		{"all x (all z P(x, y) & P(x, y))", "y: f(x, z)", "all x1 (all x2 P(x1, f(x, z)) & P(x1, f(x, z)))"},
		{"(all x P(x, y) & all x1 P(x1, y))", "y: f(x, x1)", "(all x2 P(x2, f(x, x1)) & all x2 P(x2, f(x, x1)))"},
		{"all x some y R(x, y, z, w)", "z: y; w: x", "all x1 some x2 R(x1, x2, y, x)"},
		{"all x some y R(x, y, z)", "z: y", "all x some x1 R(x, x1, y)"},
	} {
		f, l := form(c.f), list(c.l)
		got, e := Puts(f, l)
		checkForm(t, c.f+" with "+c.l, got, e, form(c.want), api.OK)
		slices.Reverse(l) // the order of what is put does not matter
		got, e = Puts(f, l)
		checkForm(t, c.f+" with "+c.l+", backwards", got, e, form(c.want), api.OK)
		if len(l) == 1 {
			got, e = Put(f, l[0].Name, l[0].Term)
			checkForm(t, c.f+" with "+c.l+" alone", got, e, form(c.want), api.OK)
		}
	}
}

// P3.2: what is not right is an error, wherever it is, and also if nothing is put; it comes ahead of what is too long.
func TestPutsErrArg(t *testing.T) {
	p, long := form("P(x)"), One{"x", nested(40, term("a"))}
	odd := api.Term{Var: true, Name: "x", Args: []api.Term{term("a")}}
	five := term("f(a, a, a, a, a)")
	for _, c := range []struct {
		what string
		f    api.Form
		l    []One
	}{
		{"the zero formula", api.Form{}, nil},
		{"a schema", api.Form{Op: api.OpMeta, Name: "?A"}, list("x: a")},
		{"a metavariable of terms", api.Form{Op: api.OpAtom, Name: "P", Args: []api.Term{variable("?t")}}, list("x: a")},
		{"a formula with a wrong name", form("all a P(x)"), list("x: a")},
		{"a formula with a wrong term", form("P(x, f(a, a, a, a, a))"), list("x: a")},
		{"a formula with a wrong part", nots(3, form("p")), nil},
		{"a formula of 401 nodes", conjunction(201, form("P")), nil},
		{"a formula of 41 levels", nots(40, form("P")), nil},
		{"a wrong formula and a long term", form("p(x)"), []One{long}},
		{"no Name", p, []One{{"", term("a")}}},
		{"a Name that is a function", p, []One{{"a", term("a")}}},
		{"a Name that is a placeholder", p, []One{{"?x", term("a")}}},
		{"a Name that is too long", p, []One{{"x1234567890123456", term("a")}}},
		{"a wrong Name behind a right one", p, []One{{"x", term("a")}, {"xx", term("a")}}},
		{"a wrong Name and a long term", p, []One{long, {"X", term("a")}}},
		{"the zero term", p, []One{{"x", api.Term{}}}},
		{"a metavariable", p, []One{{"x", variable("?t")}}},
		{"a variable with Args", p, []One{{"x", odd}}},
		{"a variable that is not Var", p, []One{{"x", api.Term{Name: "x"}}}},
		{"a function with five Args", p, []One{{"x", five}}},
		{"a wrong term in a term", p, []One{{"x", nested(3, five)}}},
		{"a wrong term for what is not there", p, []One{{"y", five}}},
		{"a wrong term and a long one", p, []One{long, {"y", five}}},
		{"a wrong term deep inside", p, []One{{"x", nested(deep, five)}}},
		{"a Name twice", p, list("x: a; x: a")},
		{"a Name twice, not in a row", p, list("x: a; y: b; x: c")},
		{"a Name twice that is not there", p, list("y: a; z: b; x: c; y: a")},
		{"a Name twice and a long term", p, append(list("y: a; y: a"), long)},
	} {
		got, e := Puts(c.f, c.l)
		checkForm(t, c.what, got, e, api.Form{}, api.ErrArg)
		if len(c.l) == 1 {
			got, e = Put(c.f, c.l[0].Name, c.l[0].Term)
			checkForm(t, c.what+" alone", got, e, api.Form{}, api.ErrArg)
		}
	}
}

// P3.2: the result has at most 400 nodes, and 40 levels.
func TestPutsErrLong(t *testing.T) {
	wide := term("f(" + strings.Repeat("g(a, a, a), ", 3) + "a)") // of 14 nodes
	for _, c := range []struct {
		what string
		f    api.Form
		t    api.Term
		e    api.Errno
	}{
		{"400 nodes", nots(3, form("P(x, f(x, y))")), longTerm(197), api.OK}, // 3 + 2 + 2 * 197 + 1
		{"401 nodes", nots(4, form("P(x, f(x, y))")), longTerm(197), api.ErrLong},
		{"402 nodes", nots(3, form("P(x, f(x, y))")), longTerm(198), api.ErrLong},
		{"400 nodes in many parts", nots(1, conjunction(25, form("P(x)"))), wide, api.OK}, // 1 + 24 + 25 * 15
		{"401 nodes in many parts", nots(2, conjunction(25, form("P(x)"))), wide, api.ErrLong},
		{"a term of 399 nodes", form("P(x)"), longTerm(399), api.OK},
		{"a term of 400 nodes", form("P(x)"), longTerm(400), api.ErrLong},
		{"a term of 400 nodes for what is not free", form("(P(y) & all x P(x))"), longTerm(400), api.OK},
		{"a term of 200 nodes for what is free once", form("(P(x) & all x P(x))"), longTerm(200), api.OK},
		{"40 levels", nots(30, form("P(f(x))")), nested(7, term("a")), api.OK},
		{"41 levels", nots(30, form("P(f(x))")), nested(8, term("a")), api.ErrLong},
		{"40 levels in a term", form("P(y, x)"), nested(38, variable("y")), api.OK},
		{"41 levels in a term", form("P(y, x)"), nested(39, variable("y")), api.ErrLong},
		{"41 levels in the first part", api.Form{Op: api.OpOr, Sub: []api.Form{nots(37, form("P(x)")), form("P(x)")}}, term("f(a)"), api.ErrLong},
		{"40 levels in the first part", api.Form{Op: api.OpOr, Sub: []api.Form{nots(36, form("P(x)")), form("P(x)")}}, term("f(a)"), api.OK},
		{"41 levels for what is not free", form("all x P(x)"), nested(40, term("a")), api.OK},
		{"very many levels", form("P(x)"), nested(deep, term("a")), api.ErrLong},
		{"very many levels for what is not free", form("P(y)"), nested(deep, term("a")), api.OK},
		{"very many nodes", form("P(x)"), longTerm(1 << 20), api.ErrLong},
		{"very many nodes at many places", conjunction(133, form("P(x)")), longTerm(1 << 20), api.ErrLong},
		{"very many nodes for what is not free", form("all x P(x)"), longTerm(1 << 20), api.OK},
	} {
		got, e := Puts(c.f, []One{{"x", c.t}, {"z", term("a")}})
		if e != c.e || e == api.OK && !syntax.Right(got) || e != api.OK && !syntax.Same(got, api.Form{}) {
			t.Errorf("%s: %d, with a formula of %d nodes", c.what, e, syntax.Nodes(got))
		}
		if alone, eAlone := Put(c.f, "x", c.t); eAlone != e || !syntax.Same(alone, got) {
			t.Errorf("%s alone: %d", c.what, eAlone)
		}
	}
	got, e := Puts(form("P(x, y)"), []One{{"x", longTerm(200)}, {"y", longTerm(200)}})
	checkForm(t, "two terms of 400 nodes", got, e, api.Form{}, api.ErrLong)
	if _, e := Puts(form("P(x, y)"), []One{{"x", longTerm(200)}, {"y", longTerm(199)}}); e != api.OK {
		t.Errorf("two terms of 399 nodes: %d", e)
	}
}

// longTerm returns a term of n nodes, as flat as can be.
func longTerm(n int) api.Term {
	t := api.Term{Name: "f"}
	for left := n - 1; left > 0; {
		part := min(left, (n+2)/4)
		t.Args = append(t.Args, longTerm(part))
		left -= part
	}
	return t
}

// P3.2: a quantifier gets the least name, though many are taken.
func TestPutsAmongManyNames(t *testing.T) {
	var l []api.Form
	for i := 1; i <= 256; i += 4 {
		p := api.Form{Op: api.OpAtom, Name: "P"}
		for k := range 4 {
			p.Args = append(p.Args, variable("x"+strconv.Itoa(i+k)))
		}
		l = append(l, p)
	}
	many := joined(l)
	for _, c := range []struct{ taken, name string }{{"", "x258"}, {"x100", "x100"}} { // what is bound inside is not taken
		sub := api.Form{Op: api.OpAnd, Sub: []api.Form{form("Q(x, y)"), many}}
		want := api.Form{Op: api.OpAnd, Sub: []api.Form{form("Q(" + c.name + ", g(x, x257))"), many}}
		if c.taken != "" {
			sub.Sub[1] = api.Form{Op: api.OpAll, Name: c.taken, Sub: []api.Form{many}}
			want.Sub[1] = sub.Sub[1]
		}
		got, e := Put(api.Form{Op: api.OpAll, Name: "x", Sub: []api.Form{sub}}, "y", term("g(x, x257)"))
		checkForm(t, c.name, got, e, api.Form{Op: api.OpAll, Name: c.name, Sub: []api.Form{want}}, api.OK)
	}
}

// P3.2, P3.4: no free variable of a term is bound where it is put, and nothing else changes: without names of bound variables, each free one has become its term.
func TestPutsCapturesNothing(t *testing.T) {
	d := fixed(3)
	for range 3000 {
		f, l := d.form(5), d.list()
		got, e := Puts(f, l)
		if e == api.ErrLong {
			continue
		}
		if want := putNameless(nameless(f), l); e != api.OK || !syntax.Same(nameless(got), want) {
			t.Fatalf("%v with %v is %v, %d", f, l, got, e)
		}
	}
}

// P3.4: what is put for a variable that is not free changes nothing; x for x changes nothing.
func TestPutsChangesNothing(t *testing.T) {
	d := fixed(4)
	for range 1000 {
		f := d.form(5)
		free := Free(f)
		var l []One
		for _, name := range append([]string{"u"}, pool...) {
			o := One{name, variable(name)}
			if !slices.Contains(free, name) {
				o.Term = d.term(3)
			}
			l = append(l, o)
			got, e := Put(f, o.Name, o.Term)
			checkForm(t, name, got, e, f, api.OK)
		}
		got, e := Puts(f, l)
		checkForm(t, "all names", got, e, f, api.OK)
	}
}

// P3.4: putting can be exchanged, if the first variable is not free in what is put for the second one.
func TestPutExchanged(t *testing.T) {
	d := fixed(5)
	n := 0
	for range 3000 {
		f, u, s, x, y := d.form(4), d.term(2), d.term(2), d.name(), d.name()
		if x == y || slices.Contains(FreeTerm(s), x) {
			continue
		}
		a, e1 := Put(f, x, u)
		a, e2 := Put(a, y, s)
		b, e3 := Put(f, y, s)
		b, e4 := Put(b, x, PutTerm(u, []One{{y, s}}))
		if e1|e2|e3|e4 == api.OK {
			n++
			if !Alpha(a, b) {
				t.Fatalf("%v for %s, %v for %s in %v: %v and %v", u, x, s, y, f, a, b)
			}
		}
	}
	if n < 1000 {
		t.Errorf("%d were put", n)
	}
}

// P3.4: formulas that are equal up to bound names stay so, whatever is put.
func TestPutsKeepsAlpha(t *testing.T) {
	d := fixed(6)
	for range 2000 {
		f, l := d.form(2), d.list()
		g := d.other(f)
		a, e := Puts(f, l)
		b, k := Puts(g, l)
		if e != k || e == api.OK && !Alpha(a, b) {
			t.Fatalf("%v and %v with %v: %v, %d and %v, %d", f, g, l, a, e, b, k)
		}
	}
}

// P3.2: the arguments stay as they are, in their spare capacity, too; results have memory of their own, also where a term is put twice.
func TestPutMemory(t *testing.T) {
	const text, listed = "(all x R(x, y, f(z)) & ~P(y, y, f(a)))", "z: y; y: g(x, f(x)); x: a"
	f, before := form(text), list(listed)
	l := append(make([]One, 0, 8), before...)
	spare := l[len(l):cap(l)]
	for i := range spare {
		spare[i] = One{"u", term("b")}
	}
	terms := termMemory([]api.Term{l[0].Term, l[1].Term, l[2].Term})
	all, _ := Puts(f, l)
	one, _ := Put(f, "y", l[1].Term)
	none, _ := Puts(f, nil)
	checkOwn(t, "formulas", memory(f), terms, memory(all), memory(one), memory(none))

	u := term("h(y, x, y, f(a))")
	checkOwn(t, "terms", termMemory([]api.Term{u}), terms, termMemory([]api.Term{PutTerm(u, l)}), termMemory([]api.Term{PutTerm(u, nil)}), termMemory([]api.Term{PutTerm(term("y"), l)}))

	checkForm(t, "the formula", f, api.OK, form(text), api.OK)
	if !syntax.SameTerm(u, term("h(y, x, y, f(a))")) {
		t.Error("the term was changed")
	}
	for i, o := range l[:cap(l)] {
		want := One{"u", term("b")}
		if i < len(before) {
			want = before[i]
		}
		if o.Name != want.Name || !syntax.SameTerm(o.Term, want.Term) {
			t.Errorf("element %d of the list was changed", i)
		}
	}
}
