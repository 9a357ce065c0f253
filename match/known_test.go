package match

import (
	"strconv"
	"strings"
	"testing"

	"lyceum/api"
	"lyceum/subst"
)

// P7.2: what is found, and the errors; an error is written as its number and the index of the pair.
func TestMatches(t *testing.T) {
	for _, c := range []struct{ pairs, binding, want string }{
		// the chapter's examples
		{"?A -> ?B = P & Q -> R", "", "?A: P & Q; ?B: R"},
		{"?A -> ?A = (all x P(x)) -> all y P(y)", "", "?A: all x P(x)"},
		{"all x ?A = all y R(y, z)", "", "?A: R(?x, z)"},
		{"all x (?A | ?B) = all y (Q | P(y)); ?A = Q", "", "?A: Q; ?B: P(?x)"},
		{"all x (?A | ?B) = all y (P(y) | P(y)); ?A = P(y)", "", "70 1"},
		{"all x ?A = all y some z R(y, z); ?A[?t/x] = some z R(f(a), z)", "", "?A: some z R(?x, z); ?t: f(a)"},
		{"all x ?A = all y some z R(y, z); ?A[?t/x] = some z R(z, z)", "", "70 1"},
		{"?A[?t/x] = P(a)", "", "71 0"},
		{"all x ?A = all y Q; ?A[?t/x] = Q", "", "?A: Q"},
		// nothing, and what is known ahead
		{"", "", ""},
		{"", "?A: P; ?t: a", "?A: P; ?t: a"},
		{"P = P", "?B: Q", "?B: Q"},
		{"?A = P", "?B: Q", "?A: P; ?B: Q"},
		{"?B = P", "?A: Q; ?C: R", "?A: Q; ?B: P; ?C: R"},
		{"?A = Q", "?A: P", "70 0"},
		{"?A = all y P(y)", "?A: all x P(x)", "?A: all x P(x)"},
		{"?A = P(x)", "?A: P(?x)", "70 0"},
		{"?A = P(y)", "?A: P(x)", "70 0"},
		{"all x ?A = all z P(z)", "?A: P(?x)", "?A: P(?x)"},
		{"all y ?A = all z P(z)", "?A: P(?x)", "70 0"},
		// signs, names and numbers
		{"?A & ?B = P | Q", "", "70 0"},
		{"~?A = []P", "", "70 0"},
		{"[]?A = []P", "", "?A: P"},
		{"?A until next ?B = P until next Q", "", "?A: P; ?B: Q"},
		{"all x ?A = some x P", "", "70 0"},
		{"false = false", "", ""},
		{"false = P", "", "70 0"},
		{"?A = false", "", "?A: false"},
		{"P = Q", "", "70 0"},
		{"P(a) = P", "", "70 0"},
		{"P = P(a)", "", "70 0"},
		{"P(?t) = P(a, b)", "", "70 0"},
		{"P(?s, ?t) = P(a, f(b))", "", "?s: a; ?t: f(b)"},
		{"P(?t, ?t) = P(a, a)", "", "?t: a"},
		{"P(?t, ?t) = P(a, b)", "", "70 0"},
		{"P(f(?t)) = P(f(g(x)))", "", "?t: g(x)"},
		{"P(f(?t)) = P(g(a))", "", "70 0"},
		{"P(f(?t)) = P(f(a, b))", "", "70 0"},
		{"P(f(?t)) = P(x)", "", "70 0"},
		{"P(x) = P(f(a))", "", "70 0"},
		{"P(a) = P(a)", "", ""},
		{"P(x) = P(x)", "", ""},
		{"P(x) = P(y)", "", "70 0"},
		{"P(?t) = P(a)", "?t: a", "?t: a"},
		{"P(?t) = P(a)", "?t: b", "70 0"},
		{"P(?t) = P(b)", "?s: a; ?t1: c", "?s: a; ?t: b; ?t1: c"},
		{"P(?a) = P(b)", "?A: P(a)", "?A: P(a); ?a: b"},
		// variables that are bound
		{"all x P(x) = all y P(y)", "", ""},
		{"all x P(x) = all x P(x)", "", ""},
		{"all x P(y) = all y P(y)", "", "70 0"},
		{"all x P(y) = all x P(y)", "", ""},
		{"all x P(x) = all y P(x)", "", "70 0"},
		{"all x P(f(x, y)) = all y P(f(y, y))", "", "70 0"},
		{"all x P(?t) = all y P(f(y, z))", "", "?t: f(?x, z)"},
		{"all x P(?t) = all y P(y); P(?t) = P(y)", "", "70 1"},
		{"all x P(?t) = all y P(y); some x Q(?t) = some z Q(z)", "", "?t: ?x"},
		{"all x P(?t) = all y P(y); some y Q(?t) = some z Q(z)", "", "70 1"},
		{"all x some y ?A = all z some u R(z, u, x)", "", "?A: R(?x, ?y, x)"},
		{"all x some y ?A = all y some x R(x, y)", "", "?A: R(?y, ?x)"},
		{"all x ?A = all y some y P(y)", "", "?A: some y P(y)"},
		{"all x ?A = all y (P(y) & some y P(y) & P(y))", "", "?A: P(?x) & some y P(y) & P(?x)"},
		{"all x some y ?A = all z some z P(z)", "", "?A: P(?y)"},
		{"(all x ?A) & ?A = (all x P(x)) & P(x)", "", "70 0"},
		{"(all x ?A) & (some x ?A) = (all y P(y)) & some z P(z)", "", "?A: P(?x)"},
		{"(all x ?A) & (some y ?A) = (all y P(y)) & some z P(z)", "", "70 0"},
		{"?A & all x ?A = P(x) & all x P(x)", "", "70 0"},
		{"?A & all y ?A = P(x) & all y P(x)", "", "?A: P(x)"},
		// two quantifiers of the same variable: only the inner one's is seen
		{"all x some x ?A = all y some z P(z)", "", "?A: P(?x)"},
		{"all x some x ?A = all y some z P(y)", "", "70 0"},
		{"all x some x ?A = all y some y P(y)", "", "?A: P(?x)"},
		{"all x some x ?A = all y some z P(x)", "", "?A: P(x)"},
		{"all x some x ?A = all y some z all y P(y)", "", "?A: all y P(y)"},
		{"all x some x P(x) = all y some z P(z)", "", ""},
		{"all x some x P(x) = all y some z P(y)", "", "70 0"},
		{"all x some x P(?t, ?s) = all y some z P(a, z)", "", "?s: ?x; ?t: a"},
		{"all x some x P(?t, ?s) = all y some z P(a, f(z, y))", "", "70 0"},
		{"all x (P(x) & some x P(x)) = all y (P(y) & some z P(z))", "", ""},
		{"all x all y some x ?A = all u all v some w R(v, w)", "", "?A: R(?y, ?x)"},
		{"all x all y some x ?A = all u all v some w R(u, w)", "", "70 0"},
		{"all x all x all x ?A = all u all v all w R(w)", "", "?A: R(?x)"},
		{"all x all x all x ?A = all u all v all w R(v)", "", "70 0"},
		{"all x all x (?A & all y ?B) = all u all v (P & all w Q(u))", "", "70 0"},
		// the places where a term may be put
		{"?A = P(?x)", "", "2 0"},
		{"?A & ?A[?t/x] = P(x) & P(x)", "", "?A: P(x)"},
		{"?A & ?A[?t/x] = P(x) & P(a)", "", "70 0"},
		{"?A[?t/x] & all x ?A = P(a) & all x P(x)", "", "?A: P(?x); ?t: a"},
		{"?A[?t/x] = P(a); all x ?A = all x P(x)", "", "?A: P(?x); ?t: a"},
		{"?A[?t/x] = P(a); all y ?A = all x P(x)", "", "70 0"},
		{"?A[?t/y] = P(a); all y ?A = all x P(x)", "", "?A: P(?y); ?t: a"},
		{"?A[?t/x] = P(a)", "?A: P(?x)", "?A: P(?x); ?t: a"},
		{"?A[?t/x] = P(a)", "?A: P(?x); ?t: a", "?A: P(?x); ?t: a"},
		{"?A[?t/x] = P(a)", "?A: P(?x); ?t: b", "70 0"},
		{"?A[?t/x] = P", "?A: P; ?t: b", "?A: P; ?t: b"},
		{"?A[?t/x] = P", "?A: Q", "70 0"},
		{"?A[?t/x] = P(a)", "?A: P(?y)", "70 0"},
		{"?A[?t/x] = R(a, a)", "?A: R(?x, ?x)", "?A: R(?x, ?x); ?t: a"},
		{"?A[?t/x] = R(a, b)", "?A: R(?x, ?x)", "70 0"},
		{"?A[?t/x] = R(a, b)", "?A: R(?x, a)", "70 0"},
		{"?A[?t/x] = R(f(b), f(f(b)))", "?A: R(?x, f(?x))", "?A: R(?x, f(?x)); ?t: f(b)"},
		{"?A[?t/x] = R(f(a), b)", "?A: R(f(?x), ?x)", "70 0"},
		{"?A[?t/x] = R(f(b), b)", "?A: R(f(?x), ?x)", "?A: R(f(?x), ?x); ?t: b"},
		{"?A[?t/x] = R(c, g(b, f(b)))", "?A: R(c, g(b, f(?x)))", "?A: R(c, g(b, f(?x))); ?t: b"},
		{"?A[?t/x] = R(f, a)", "?A: R(f(?x), a)", "70 0"},
		{"?A[?t/x] = R(x, a)", "?A: R(f(?x), a)", "70 0"},
		{"?A[?t/x] = R", "?A: R(?x)", "70 0"},
		{"?A[?t/x] = R(a)", "?A: R(a, ?x)", "70 0"},
		{"?A[?t/x] = ~P(a)", "?A: P(?x)", "70 0"},
		{"?A[?t/x] = P(a)", "?A: ~P(?x)", "70 0"},
		{"?A[?t/x] = ~P(a)", "?A: Q & P(?x)", "70 0"},
		{"?A[?t/x] = Q & P(a)", "?A: Q & P(?x)", "?A: Q & P(?x); ?t: a"},
		{"?A[?t/x] = Q | P(a)", "?A: Q & P(?x)", "70 0"},
		{"?A[?t/x] = some z R(u, z)", "?A: some z R(?x, z)", "?A: some z R(?x, z); ?t: u"},
		{"?A[?t/x] = some y R(z, y)", "?A: some z R(?x, z)", "?A: some z R(?x, z); ?t: z"},
		{"?A[?t/x] = some y R(z, y)", "?A: some z R(?x, z); ?t: z", "?A: some z R(?x, z); ?t: z"},
		{"?A[?t/x] = some z R(z, z)", "?A: some z R(?x, z); ?t: z", "70 0"},
		{"?A[?t/x] = some z P(f(z))", "?A: some z P(?x)", "70 0"},
		{"?A[?t/x] = (some z P(z)) & P(z)", "?A: (some z P(z)) & P(?x)", "?A: some z P(z) & P(?x); ?t: z"},
		{"?A[?t/x] = P(z) & some z P(z)", "?A: P(?x) & some z P(?x)", "70 0"},
		{"?A[?t/x] = P(z) & some y P(z)", "?A: P(?x) & some z P(?x)", "?A: P(?x) & some z P(?x); ?t: z"},
		{"all y ?A[?t/x] = all z R(z)", "?A: R(?x)", "?A: R(?x); ?t: ?y"},
		{"all y ?A[?t/x] = all z R(f(z), z)", "?A: R(?x, ?y)", "?A: R(?x, ?y); ?t: f(?y)"},
		{"all x ?A[?t/x] = all z R(f(z), z)", "?A: R(?x, ?y)", "70 0"},
		{"all x ?A[?t/x] = all z R(f(z), z)", "?A: R(?x, z)", "70 0"},
		{"all x (?A & ?A[?t/x]) = all z (R(z) & R(f(z)))", "", "?A: R(?x); ?t: f(?x)"},
		{"all y all y ?A[?t/x] = all z all u R(z)", "?A: R(?x)", "70 0"},
		{"all y all y ?A[?t/x] = all z all u R(u)", "?A: R(?x)", "?A: R(?x); ?t: ?y"},
		{"all y all y ?A[?t/x] = all z all u R(z)", "", "71 0"},
		{"?A[?s/x] & ?B[?s/x] = P(a) & Q(a)", "?A: P(?x); ?B: Q(?x)", "?A: P(?x); ?B: Q(?x); ?s: a"},
		{"?A[?s/x] & ?B[?s/x] = P(a) & Q(b)", "?A: P(?x); ?B: Q(?x)", "70 0"},
		{"?A[?s/x] & ?A[?t/x] = P(a) & P(b)", "?A: P(?x)", "?A: P(?x); ?s: a; ?t: b"},
		{"?A[?t/x] = P(a); Q(?t) = Q(b)", "?A: P(?x)", "70 0"},
		{"?A[?t/x] = P(a); Q(?t) = Q(a)", "?A: P(?x)", "?A: P(?x); ?t: a"},
	} {
		l := pairs(c.pairs)
		b, at, errno := Matches(l, bindings(c.binding))
		got := showBinding(b)
		if errno != api.OK {
			got = errorText(errno, at)
			if !empty(b) {
				t.Errorf("%s with %s: %s, and a binding %s", c.pairs, c.binding, got, showBinding(b))
			}
		}
		if got != c.want || errno == api.OK && at != 0 {
			t.Errorf("%s with %s: %s at %d, not %s", c.pairs, c.binding, got, at, c.want)
		}
		checkMatch(t, l, bindings(c.binding), b, errno)
	}
}

// errorText returns the number of an error, and the index of a pair.
func errorText(errno api.Errno, at int) string {
	return strconv.Itoa(int(errno)) + " " + strconv.Itoa(at)
}

// checkMatch reports if Match does not find what Matches found for one pair.
func checkMatch(t *testing.T, l []Pair, b, want Binding, errno api.Errno) {
	t.Helper()
	if len(l) != 1 {
		return
	}
	if got, e := Match(l[0].Schema, l[0].Form, b); e != errno || !sameBinding(got, want) {
		t.Errorf("%s: Match finds %s, %d, but Matches %s, %d", showPairs(l), showBinding(got), e, showBinding(want), errno)
	}
}

// P7.2: the first pass goes through all pairs ahead of the second one.
func TestPasses(t *testing.T) {
	for _, c := range []struct{ pairs, want string }{
		{"?A[?t/x] = P; P = Q", "70 1"},
		{"P = Q; ?A[?t/x] = P", "70 0"},
		{"?A[?t/x] = P; ?B = Q", "71 0"},
		{"?A[?t/x] = P; ?A = P", "?A: P"},
		{"?A[?t/x] = Q; ?A = P; P = Q", "70 2"},
		{"?A = P; ?A[?t/x] = Q; ?B[?t/x] = P", "70 1"},
		{"?A = P; ?B[?t/x] = Q; ?A[?t/x] = P", "71 1"},
		{"?A = P; ?A[?t/x] & ?B[?t/x] = Q & Q", "70 1"},
		{"?A = P; ?B[?t/x] & ?A[?t/x] = Q & Q", "71 1"},
		{"?A = P; ?A = P; ?A = Q; ?A = R", "70 2"},
		{"P(?t) = P(a); all x ?A = all x Q(x); ?A[?t/x] = Q(b); ?B[?t/x] = Q", "70 2"},
		{"all x ?A = all x Q(x); ?A[?t/x] = Q(b); P(?t) = P(b)", "?A: Q(?x); ?t: b"},
		{"all x ?A = all x Q(x); ?A[?t/x] = Q(b); ?A[?t/x] = Q(c)", "70 2"},
	} {
		b, at, errno := Matches(pairs(c.pairs), Binding{})
		got := showBinding(b)
		if errno != api.OK {
			got = errorText(errno, at)
		}
		if got != c.want {
			t.Errorf("%s: %s, not %s", c.pairs, got, c.want)
		}
	}
}

// P7.2: invalid arguments come ahead of all that does not match, the binding ahead of the pairs, and these in their order.
func TestMatchesArguments(t *testing.T) {
	wrong, good := Binding{Forms: []FormBind{{"?t", form("P")}}}, Pair{form("?A"), form("P")}
	badSchema, badForm, not := Pair{meta("A"), form("P")}, Pair{form("?A"), form("?A")}, Pair{form("P"), form("Q")}
	for _, c := range []struct {
		what string
		l    []Pair
		b    Binding
		at   int
	}{
		{"a binding alone", nil, wrong, 0},
		{"a binding and pairs", []Pair{good, badForm}, wrong, 0},
		{"a schema", []Pair{badSchema}, Binding{}, 0},
		{"a formula", []Pair{badForm}, Binding{}, 0},
		{"a schema behind a good pair", []Pair{good, badSchema}, Binding{}, 1},
		{"a formula behind what does not match", []Pair{not, not, badForm, badSchema}, Binding{}, 2},
		{"a zero pair", []Pair{good, good, {}}, Binding{}, 2},
		{"a formula with a placeholder", []Pair{{form("?A"), form("P(?x)")}}, Binding{}, 0},
		{"a schema with a placeholder", []Pair{{form("P(?x)"), form("P(x)")}}, Binding{}, 0},
		{"a schema that is too deep", []Pair{{nots(40, meta("?A")), nots(40, form("P"))}}, Binding{}, 0},
		{"a formula that is too long", []Pair{good, {form("?A"), and(form("P"), conjunction(200, form("P")))}}, Binding{}, 1},
		{"a very deep pair", []Pair{good, {nots(deep, meta("?A")), nots(deep, form("P"))}}, Binding{}, 1},
	} {
		b, at, errno := Matches(c.l, c.b)
		if errno != api.ErrArg || at != c.at || !empty(b) {
			t.Errorf("%s: %s, %d, %d", c.what, showBinding(b), at, errno)
		}
		checkMatch(t, c.l, c.b, b, errno)
	}
}

// P7.2: what is as large as it may be; terms that are known may be larger.
func TestMatchesSizes(t *testing.T) {
	p, x := form("P"), variable("?x")
	for _, c := range []struct {
		schema, f api.Form
		b, want   Binding
		errno     api.Errno
	}{
		{nots(39, meta("?A")), nots(39, p), Binding{}, bindings("?A: P"), api.OK},
		{meta("?A"), nots(39, p), Binding{}, Binding{Forms: []FormBind{{"?A", nots(39, p)}}}, api.OK},
		{conjunction(200, meta("?A")), conjunction(200, p), Binding{}, bindings("?A: P"), api.OK},
		{atom("P", variable("?t")), atom("P", nested(38, variable("x"))), Binding{}, Binding{Terms: []TermBind{{"?t", nested(38, variable("x"))}}}, api.OK},
		{form("P(?t)"), form("P(a)"), Binding{Terms: []TermBind{{"?t", nested(deep, x)}}}, Binding{}, ErrMatch},
		{form("?A[?t/x]"), form("P(f(f(a)))"), Binding{bindings("?A: P(?x)").Forms, []TermBind{{"?t", nested(deep, x)}}}, Binding{}, ErrMatch},
		{form("?A[?t/x]"), form("P(a, b)"), Binding{bindings("?A: P(?x, ?x)").Forms, []TermBind{{"?t", wide(100000, x)}}}, Binding{}, ErrMatch},
		{form("?A[?t/x]"), atom("P", wide(399, variable("x"))), bindings("?A: P(?x)"), Binding{bindings("?A: P(?x)").Forms, []TermBind{{"?t", wide(399, variable("x"))}}}, api.OK},
		{form("?A[?t/x]"), atom("P", wide(398, variable("x")), function("a")), bindings("?A: P(?x, ?x)"), Binding{}, ErrMatch},
		{form("?A[?t/x]"), form("P"), Binding{bindings("?A: P").Forms, []TermBind{{"?t", nested(deep, x)}}}, Binding{bindings("?A: P").Forms, []TermBind{{"?t", nested(deep, x)}}}, api.OK},
	} {
		b, errno := Match(c.schema, c.f, c.b)
		if errno != c.errno || !sameBinding(b, c.want) {
			t.Errorf("%s: %d, %s", show(c.schema), errno, showBinding(b))
		}
	}
	many := make([]Pair, 5000)
	for i := range many {
		many[i] = Pair{form("?A -> P(?t)"), form("(all x P(x)) -> P(a)")}
	}
	if b, _, errno := Matches(many, Binding{}); errno != api.OK || showBinding(b) != "?A: all x P(x); ?t: a" {
		t.Errorf("many pairs: %d, %s", errno, showBinding(b))
	}
	many[4321].Form = form("(all x P(x)) -> P(b)")
	if _, at, errno := Matches(many, Binding{}); errno != ErrMatch || at != 4321 {
		t.Errorf("many pairs, one of which does not match: %d, %d", errno, at)
	}
}

// P7.2, P7.3: many quantifiers, whose placeholders all need something to stand for them.
func TestManyPlaceholders(t *testing.T) {
	f, schema := form("P(x1, x2, x3)"), meta("?A")
	for i := range 30 {
		f = and(f, atom("R", variable("y"+strconv.Itoa(i)), variable("x"+strconv.Itoa(i))))
	}
	for i := range 5 {
		f, schema = one(api.OpAll, "y"+strconv.Itoa(i), f), one(api.OpAll, "z"+strconv.Itoa(i), schema)
	}
	b, errno := Match(and(schema, schema), and(f, f), Binding{})
	if errno != api.OK {
		t.Fatalf("%d", errno)
	}
	g, errno := Fill(schema, b)
	if errno != api.OK || !subst.Alpha(f, g) {
		t.Errorf("filled: %d, %s", errno, show(g))
	}
}

// P7.2: arguments stay as they are, and results have memory of their own.
func TestMatchesMemory(t *testing.T) {
	texts := []string{"(all x ?A) & ?A[?t/x] & P(?s) = (all y R(y, f(z))) & R(g(z), f(z)) & P(f(f(b)))", "?C = P(f(f(a))) & Q"}
	l := pairs(strings.Join(texts, "; "))
	given := bindings("?B: P(f(f(a))) & Q; ?a: g(g(b))")
	found, _, errno := Matches(l, given)
	want := "?A: R(?x, f(z)); ?B: P(f(f(a))) & Q; ?C: P(f(f(a))) & Q; ?a: g(g(b)); ?s: f(f(b)); ?t: g(z)"
	if errno != api.OK || showBinding(found) != want {
		t.Fatalf("%d, %s", errno, showBinding(found))
	}
	again, _, _ := Matches(l, given)
	for _, f := range found.Forms {
		spoil(f.Form)
	}
	for _, u := range found.Terms {
		spoilTerms(u.Term.Args)
	}
	if showPairs(l) != showPairs(pairs(strings.Join(texts, "; "))) || showBinding(given) != "?B: P(f(f(a))) & Q; ?a: g(g(b))" || showBinding(again) != want {
		t.Errorf("%s, %s, %s", showPairs(l), showBinding(given), showBinding(again))
	}
}

// P7.2: elements of a result share no memory either.
func TestMatchesOwnMemory(t *testing.T) {
	whole := form("P(f(f(a)))")
	b, _, _ := Matches([]Pair{{meta("?A"), whole}, {meta("?B"), whole}, {atom("P", variable("?s")), whole}, {atom("P", variable("?t")), whole}}, Binding{})
	spoil(b.Forms[0].Form)
	spoilTerms(b.Terms[0].Term.Args)
	if show(b.Forms[1].Form) != "P(f(f(a)))" || showTerm(b.Terms[1].Term) != "f(f(a))" || show(whole) != "P(f(f(a)))" {
		t.Errorf("%s, %s", showBinding(b), show(whole))
	}
}
