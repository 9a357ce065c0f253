package match

import (
	"strconv"
	"testing"

	"lyceum/api"
	"lyceum/subst"
	"lyceum/syntax"
)

// P7.3: what schemas become.
func TestFill(t *testing.T) {
	for _, c := range []struct{ schema, binding, want string }{
		// the chapter's examples
		{"some x ?A", "?A: P(?x, x)", "some x1 P(x1, x)"},
		{"?A", "?A: P(?x, x)", "error 72"},
		{"?A[?t/x]", "?A: P(?x, x); ?t: x", "P(x, x)"},
		// without quantifiers
		{"P & ~Q(a)", "", "P & ~Q(a)"},
		{"false until next P", "?A: Q; ?t: a", "false until next P"},
		{"?A -> ?B -> ?A", "?A: P; ?B: all x Q(x)", "P -> all x Q(x) -> P"},
		{"P(?t, f(?s), x, ?t)", "?s: g(?t); ?t: b", "error 2"},
		{"P(?t, f(?s), x, ?t)", "?s: g(x); ?t: b", "P(b, f(g(x)), x, b)"},
		{"P(?t)", "?t: ?x", "error 72"},
		{"P(?t)", "?t: f(a, g(?x))", "error 72"},
		{"P(?t)", "?s: ?x; ?t: a", "P(a)"},
		{"?A", "?A: P; ?B: P(?x)", "P"},
		// quantifiers
		{"all x P(x)", "", "all x P(x)"},
		{"all x all x P(x)", "", "all x all x P(x)"},
		{"all x some y R(x, y, z)", "", "all x some y R(x, y, z)"},
		{"all x P(x, ?t)", "?t: ?x", "all x P(x, x)"},
		{"all x P(x, ?t)", "?t: x", "all x1 P(x1, x)"},
		{"all x P(x, ?t)", "?t: f(x, ?x, x1, x3)", "all x2 P(x2, f(x, x2, x1, x3))"},
		{"all y P(x, y, ?t)", "?t: y", "all x1 P(x, x1, y)"},
		{"all y P(x1, y, ?t)", "?t: y", "all x2 P(x1, x2, y)"},
		{"all x P(x, ?t)", "?t: ?y", "error 72"},
		{"all x P(x) & P(?t)", "?t: ?x", "error 72"},
		{"all x P(x) & P(?t)", "?t: x", "all x P(x) & P(x)"},
		{"all x ?A", "?A: P", "all x P"},
		{"all x ?A", "?A: P(x)", "all x1 P(x)"},
		{"all x ?A", "?A: P(x1)", "all x P(x1)"},
		{"all x ?A", "?A: P(x, x1)", "all x2 P(x, x1)"},
		{"all x ?A", "?A: all x P(x)", "all x all x P(x)"},
		{"all x (?A & P(x))", "?A: Q(x)", "all x1 (Q(x) & P(x1))"},
		{"all x all x ?A", "?A: P(?x)", "all x all x P(x)"},
		{"all x all x ?A", "?A: P(?x, x)", "all x1 all x1 P(x1, x)"},
		{"all x (?A & all x ?A)", "?A: P(?x)", "all x (P(x) & all x P(x))"},
		{"all x (?A & all x ?A)", "?A: P(?x, x)", "all x1 (P(x1, x) & all x1 P(x1, x))"},
		{"all x some y ?A", "?A: R(?x, ?y, x, y)", "all x1 some x2 R(x1, x2, x, y)"},
		{"all x some y ?A", "?A: R(?y, y)", "all x some x1 R(x1, y)"},
		{"all x some y ?A", "?A: R(?x, y)", "all x some x1 R(x, y)"},
		{"all x1 some y ?A", "?A: R(?x1, y)", "all x1 some x2 R(x1, y)"},
		{"all x2 some y ?A", "?A: R(?x2, ?y, y, x1)", "all x2 some x3 R(x2, x3, y, x1)"},
		{"all x ?A & some x ?A", "?A: R(?x)", "all x R(x) & some x R(x)"},
		{"all x ?A & ?A", "?A: R(?x)", "error 72"},
		{"all x ?A & some y ?A", "?A: R(?x)", "error 72"},
		{"all x some y ?A", "?A: R(?y, ?z)", "error 72"},
		// quantifiers within that have the name of one around it
		{"all x ?A", "?A: some x R(x, ?x)", "all x some x1 R(x1, x)"},
		{"all x ?A", "?A: some x R(x, y)", "all x some x R(x, y)"},
		{"all x ?A", "?A: some x (P(x) & some x1 R(x, x1, ?x))", "all x some x1 (P(x1) & some x2 R(x1, x2, x))"},
		{"all x ?A", "?A: P(x) & some x1 R(x1, ?x)", "all x1 (P(x) & some x2 R(x2, x1))"},
		{"all x ?A", "?A: P(x) & some x1 some x2 R(x1, x2, ?x)", "all x1 (P(x) & some x2 some x3 R(x2, x3, x1))"},
		{"all y some x P(x, y, ?t)", "?t: x", "all y some x1 P(x1, y, x)"},
		{"all x1 some x P(x, x1, ?t)", "?t: x", "all x1 some x2 P(x2, x1, x)"},
		{"all x1 some x P(x, ?t)", "?t: x", "all x1 some x1 P(x1, x)"},
		// a term in the place of a variable
		{"?A[?t/x]", "?A: P(x, ?x, f(?x)); ?t: g(y)", "P(x, g(y), f(g(y)))"},
		{"?A[?t/x]", "?A: P(x); ?t: g(y)", "P(x)"},
		{"?A[?t/x]", "?A: P(x)", "P(x)"},
		{"?A[?t/x]", "?A: P(?x)", "error 6"},
		{"?A[?t/x]", "?A: P(?y); ?t: a", "error 72"},
		{"?A[?t/x]", "?A: P(?y)", "error 72"},
		{"?A[?t/x]", "?A: P(?x, ?y); ?t: a", "error 72"},
		{"?A[?t/x]", "?A: P(?x); ?t: ?x", "error 72"},
		{"?A[?t/x]", "?A: P; ?t: ?x", "P"},
		{"?A[?t/x]", "?A: P(?x); ?t: f(?y)", "error 72"},
		{"all y ?A[?t/x]", "?A: P(?x); ?t: f(?y)", "all y P(f(y))"},
		{"all x ?A[?t/x]", "?A: P(?x); ?t: f(?x)", "all x P(f(x))"},
		{"all x (?A & ?A[?t/x])", "?A: P(?x); ?t: f(?x)", "all x (P(x) & P(f(x)))"},
		{"all x ?A[?t/y]", "?A: P(?x, ?y); ?t: x", "all x1 P(x1, x)"},
		{"?A[?t/x]", "?A: some y R(?x, y); ?t: y", "some x1 R(y, x1)"},
		{"?A[?t/x]", "?A: some y R(?x, y); ?t: f(y, x1)", "some x2 R(f(y, x1), x2)"},
		{"?A[?t/x]", "?A: some y (P(y) & some x1 R(?x, y)); ?t: y", "some x1 (P(x1) & some x2 R(y, x1))"},
		{"?A[?t/x]", "?A: some y some x1 R(?x, y, x1, x2); ?t: y", "some x1 some x3 R(y, x1, x3, x2)"},
		{"?A[?t/x]", "?A: some y (P(y) & some y P(y)) & P(?x); ?t: y", "some y (P(y) & some y P(y)) & P(y)"},
		{"?A[?t/x]", "?A: some y Q(?x); ?t: y", "some x1 Q(y)"},
		{"?A[?t/x]", "?A: some x Q(x) & Q(?x); ?t: x", "some x Q(x) & Q(x)"},
		// one thing is put away behind the other: x3 is put for x1, and all x2 becomes x4 afterwards; were both put at once, the last quantifier would keep its name
		{"?A[?t/x]", "?A: all x1 all x2 R(x1, x2, ?x); ?t: f(x1, x2)", "all x3 all x4 R(x3, x4, f(x1, x2))"},
		// what is not known
		{"?A", "", "error 6"},
		{"?A", "?B: P", "error 6"},
		{"P(?t)", "?s: a", "error 6"},
		{"P & ?A", "?A: P", "P & P"},
		{"P & ?B", "?A: P", "error 6"},
		{"?B[?t/x]", "?A: P; ?t: a", "error 6"},
		// not known, left: in this order
		{"?A & ?B", "?A: P(?x)", "error 6"},
		{"?B & ?A", "?A: P(?x)", "error 6"},
		{"P(?t) & ?A", "?A: P(?x)", "error 6"},
		{"P(?s, ?t)", "?s: ?x", "error 6"},
		{"P(?s, ?t)", "?t: ?x", "error 6"},
		{"?A[?t/x] & P(?s)", "?A: P(?x); ?s: ?x", "error 6"},
	} {
		checkFill(t, c.schema, c.binding, c.want)
	}
}

// checkFill reports if a schema does not become what it should.
func checkFill(t *testing.T, schema, binding, want string) {
	t.Helper()
	f, errno := Fill(form(schema), bindings(binding))
	got := show(f)
	if errno != api.OK {
		got = "error " + strconv.Itoa(int(errno))
		if !syntax.Same(f, api.Form{}) {
			t.Errorf("%s with %s: %s, and %s", schema, binding, got, show(f))
		}
	}
	if got != want {
		t.Errorf("%s with %s: %s, not %s", schema, binding, got, want)
	}
}

// P7.3: invalid arguments.
func TestFillArguments(t *testing.T) {
	known := bindings("?A: P(?x); ?t: a")
	for _, c := range []struct {
		schema api.Form
		b      Binding
	}{
		{api.Form{}, known},
		{meta("A"), known},
		{form("P(?x)"), known},
		{api.Form{Op: api.OpInst, Name: "?A", Args: []api.Term{variable("?x"), variable("?t")}}, known},
		{nots(40, meta("?A")), known},
		{and(meta("?B"), conjunction(200, form("P"))), known},
		{form("P"), Binding{Forms: []FormBind{{"?A", form("P")}, {"?A", form("P")}}}},
		{form("?B"), Binding{Terms: []TermBind{{"?t", api.Term{}}}}},
		{form("?A"), Binding{Forms: []FormBind{{"?A", nots(40, form("P"))}}}},
	} {
		if f, errno := Fill(c.schema, c.b); errno != api.ErrArg || !syntax.Same(f, api.Form{}) {
			t.Errorf("%s with %s: %d, %s", show(c.schema), showBinding(c.b), errno, show(f))
		}
	}
}

// P7.3: what becomes as large as it may be, and larger; placeholders that are left come ahead.
func TestFillSizes(t *testing.T) {
	p, x := form("P"), variable("x")
	forms := func(f api.Form) Binding { return Binding{Forms: []FormBind{{"?A", f}}} }
	both := func(f api.Form, u api.Term) Binding { return Binding{forms(f).Forms, []TermBind{{"?t", u}}} }
	for _, c := range []struct {
		what   string
		schema api.Form
		b      Binding
		errno  api.Errno
	}{
		{"400 nodes", form("~?A"), forms(conjunction(200, p)), api.OK},
		{"401 nodes", form("~~?A"), forms(conjunction(200, p)), api.ErrLong},
		{"400 nodes in two parts", form("?A & ?A & Q"), forms(nots(1, conjunction(99, p))), api.OK},
		{"401 nodes in two parts", form("?A & ?A & ~Q"), forms(nots(1, conjunction(99, p))), api.OK},
		{"403 nodes in two parts", form("?A & ?A & ~~~Q"), forms(nots(1, conjunction(99, p))), api.ErrLong},
		{"a depth of 40", nots(20, form("?A")), forms(nots(19, p)), api.OK},
		{"a depth of 41", nots(20, form("?A")), forms(nots(20, p)), api.ErrLong},
		{"400 nodes of a term", form("P(?t)"), both(p, wide(399, x)), api.OK},
		{"401 nodes of a term", form("P(?t)"), both(p, wide(400, x)), api.ErrLong},
		{"400 nodes of two terms", form("P(?t, f(?t))"), both(p, wide(199, x)), api.OK},
		{"402 nodes of two terms", form("P(?t, f(?t))"), both(p, wide(200, x)), api.ErrLong},
		{"a depth of 40 of a term", form("P(f(?t))"), both(p, nested(37, x)), api.OK},
		{"a depth of 41 of a term", form("P(f(?t))"), both(p, nested(38, x)), api.ErrLong},
		{"a large term", form("Q & P(?t)"), both(p, wide(100000, x)), api.ErrLong},
		{"a large term that is not there", form("Q & P"), both(p, wide(100000, x)), api.OK},
		{"a large term at many places", atom("P", nested(1, variable("?t")), variable("?t"), variable("?t"), variable("?t")), both(p, wide(100000, x)), api.ErrLong},
		{"a deep term", form("Q & P(?t)"), both(p, nested(deep, x)), api.ErrLong},
		{"a large term with a placeholder", form("Q & P(?t)"), both(p, wide(100000, variable("?x"))), ErrScope},
		{"a large term with a placeholder of the scope", form("all x P(?t)"), both(p, wide(100000, variable("?x"))), api.ErrLong},
		{"a large term, and something not known", form("P(?t) & ?B"), both(p, wide(100000, variable("?x"))), api.ErrNone},
		{"a large formula, and a placeholder", form("~~?A & P(?t)"), both(conjunction(200, p), variable("?x")), ErrScope},
		{"400 nodes of an instance", form("?A[?t/x]"), both(form("P(?x)"), wide(399, x)), api.OK},
		{"401 nodes of an instance", form("?A[?t/x]"), both(form("P(?x)"), wide(400, x)), api.ErrLong},
		{"400 nodes of an instance with two places", form("?A[?t/x]"), both(form("P(?x, f(?x))"), wide(199, x)), api.OK},
		{"402 nodes of an instance with two places", form("?A[?t/x]"), both(form("P(?x, f(?x))"), wide(200, x)), api.ErrLong},
		{"a formula with two places for a term", form("?A[?t/x]"), both(form("P(?x) & ~P(?x)"), wide(198, x)), api.OK},
		{"a formula with two places for a larger term", form("?A[?t/x]"), both(form("P(?x) & ~P(?x)"), wide(199, x)), api.ErrLong},
		{"a function with the name of a placeholder's variable", form("?A[?t/x]"), both(form("P(?x)"), function("a")), api.OK},
		{"a large term for what does not occur", form("?A[?t/x]"), both(form("P"), wide(100000, variable("?x"))), api.OK},
		{"a large term in an instance", form("?A[?t/x]"), both(form("P(?x)"), wide(100000, x)), api.ErrLong},
		{"a large term with a placeholder in an instance", form("?A[?t/x]"), both(form("P(?x)"), wide(100000, variable("?x"))), ErrScope},
		{"a depth of 40 of an instance", form("?A[?t/x]"), both(nots(10, form("P(?x)")), nested(28, x)), api.OK},
		{"a depth of 41 of an instance", form("?A[?t/x]"), both(nots(10, form("P(?x)")), nested(29, x)), api.ErrLong},
		{"a deep schema", nots(39, form("?A")), forms(p), api.OK},
		{"a deep schema with a depth of 2", nots(39, form("?A")), forms(form("P(a)")), api.ErrLong},
	} {
		f, errno := Fill(c.schema, c.b)
		if errno != c.errno || (errno != api.OK) != syntax.Same(f, api.Form{}) || errno == api.OK && !syntax.Right(f) {
			t.Errorf("%s: %d, %d nodes", c.what, errno, syntax.Nodes(f))
		}
	}
}

// P7.3: what would be far too long is not made.
func TestFillHuge(t *testing.T) {
	u := variable("?t")
	schema := conjunction(60, atom("P", u, u, u, u))
	b := Binding{Terms: []TermBind{{"?t", wide(1<<20, variable("x"))}}}
	if errno := fillingOf(schema, know(b)).fault(schema); errno != api.ErrLong {
		t.Fatalf("%d", errno)
	}
	if _, errno := Fill(schema, b); errno != api.ErrLong {
		t.Errorf("%d", errno)
	}
}

// P7.3: the terms of schemas.
func TestFillTerm(t *testing.T) {
	for _, c := range []struct{ term, binding, want string }{
		{"a", "", "a"},
		{"x", "?t: a", "x"},
		{"?t", "?t: f(x)", "f(x)"},
		{"f(?t, g(?s), ?t)", "?A: P; ?s: a; ?t: f(x)", "f(f(x), g(a), f(x))"},
		{"?s", "?t: a", "error 6"},
		{"?t", "?t: ?x", "error 72"},
		{"f(?s, ?t)", "?t: ?x", "error 6"},
		{"f(?x)", "", "error 2"},
		{"?t", "?t: ?s", "error 2"},
	} {
		u, errno := FillTerm(term(c.term), bindings(c.binding))
		got := showTerm(u)
		if errno != api.OK {
			got = "error " + strconv.Itoa(int(errno))
			if !syntax.SameTerm(u, api.Term{}) {
				t.Errorf("%s with %s: %s, and %s", c.term, c.binding, got, showTerm(u))
			}
		}
		if got != c.want {
			t.Errorf("%s with %s: %s, not %s", c.term, c.binding, got, c.want)
		}
	}
}

// P7.3: invalid terms, and the sizes of those of schemas and of results.
func TestFillTermArguments(t *testing.T) {
	x := variable("x")
	known := func(u api.Term) Binding { return Binding{Terms: []TermBind{{"?t", u}}} }
	for _, c := range []struct {
		what  string
		u     api.Term
		b     Binding
		errno api.Errno
	}{
		{"a zero term", api.Term{}, Binding{}, api.ErrArg},
		{"a metavariable of formulas", variable("?A"), bindings("?A: P"), api.ErrArg},
		{"a metavariable with Args", api.Term{Var: true, Name: "?t", Args: []api.Term{x}}, known(x), api.ErrArg},
		{"a predicate", function("P"), Binding{}, api.ErrArg},
		{"an invalid binding", x, known(api.Term{}), api.ErrArg},
		{"399 nodes", wide(399, x), Binding{}, api.OK},
		{"400 nodes", wide(400, x), Binding{}, api.ErrArg},
		{"a depth of 39", nested(38, x), Binding{}, api.OK},
		{"a depth of 40", nested(39, x), Binding{}, api.ErrArg},
		{"a very deep term", nested(deep, x), Binding{}, api.ErrArg},
		{"a result of 399 nodes", form("P(f(?t, ?t))").Args[0], known(wide(199, x)), api.OK},
		{"a result of 401 nodes", form("P(f(?t, ?t))").Args[0], known(wide(200, x)), api.ErrLong},
		{"a result of 399 nodes with a metavariable alone", variable("?t"), known(wide(399, x)), api.OK},
		{"a result of 400 nodes with a metavariable alone", variable("?t"), known(wide(400, x)), api.ErrLong},
		{"a result with a depth of 39", nested(20, variable("?t")), known(nested(18, x)), api.OK},
		{"a result with a depth of 40", nested(20, variable("?t")), known(nested(19, x)), api.ErrLong},
		{"a large result with a placeholder", variable("?t"), known(wide(100000, variable("?x"))), ErrScope},
		{"a large result", variable("?t"), known(nested(deep, x)), api.ErrLong},
	} {
		u, errno := FillTerm(c.u, c.b)
		if errno != c.errno || (errno != api.OK) != syntax.SameTerm(u, api.Term{}) {
			t.Errorf("%s: %d, %s", c.what, errno, showTerm(u))
		}
	}
}

// P7.3: arguments stay as they are, and results have memory of their own, also at places that become the same.
func TestFillMemory(t *testing.T) {
	schema, b := form("?A & ?A & P(?t, ?t) & Q(f(g(a))) & all x ?B"), bindings("?A: P(f(a)) & Q; ?B: P(?x, f(b)); ?t: f(g(a))")
	f, errno := Fill(schema, b)
	const want = "P(f(a)) & Q & (P(f(a)) & Q) & P(f(g(a)), f(g(a))) & Q(f(g(a))) & all x P(x, f(b))"
	if errno != api.OK || show(f) != want {
		t.Fatalf("%d, %s", errno, show(f))
	}
	again, _ := Fill(schema, b)
	first := f.Sub[0].Sub[0].Sub[0]
	spoil(first.Sub[0])
	spoilTerms(first.Sub[1].Sub[0].Args)
	spoil(again)
	if show(schema) != "?A & ?A & P(?t, ?t) & Q(f(g(a))) & all x ?B" || showBinding(b) != "?A: P(f(a)) & Q; ?B: P(?x, f(b)); ?t: f(g(a))" {
		t.Errorf("%s, %s", show(schema), showBinding(b))
	}
	f, _ = Fill(form("?A & ?A"), b)
	spoil(f.Sub[0])
	if show(f.Sub[1]) != "P(f(a)) & Q" {
		t.Errorf("equal parts share memory: %s", show(f.Sub[1]))
	}
	f, _ = Fill(form("P(?t, ?t)"), b)
	spoilTerms(f.Args[0].Args)
	if showTerm(f.Args[1]) != "f(g(a))" {
		t.Errorf("equal terms share memory: %s", showTerm(f.Args[1]))
	}
	f, _ = Fill(form("?A[?t/x] & ?A[?t/x]"), bindings("?A: P(?x, f(?x)); ?t: f(g(a))"))
	spoilTerms(f.Sub[0].Args[0].Args)
	spoil(f.Sub[0])
	if show(f.Sub[1]) != "P(f(g(a)), f(f(g(a))))" {
		t.Errorf("equal instances share memory: %s", show(f.Sub[1]))
	}
}

// P7.3: names that have to be put away again and again are found soon.
func TestFillManyNames(t *testing.T) {
	f := form("R(?x, y, x1, x2)")
	for i := range 37 {
		f = one(api.OpSome, "x"+strconv.Itoa(1+i*7%5), f)
	}
	b := Binding{[]FormBind{{"?A", f}}, []TermBind{{"?t", term("f(y, x1, x2, x4)")}}}
	g, errno := Fill(form("?A[?t/x]"), b)
	if errno != api.OK || syntax.Depth(g) != 40 {
		t.Fatalf("%d, %s", errno, show(g))
	}
	if free := subst.Free(g); len(free) != 4 {
		t.Errorf("%s has the free variables %v", show(g), free)
	}
}
