package parse

import (
	"slices"
	"strings"
	"testing"

	"lyceum/api"
	"lyceum/lex"
	"lyceum/syntax"
)

// checkForm tests what Form or Schema returns.
func checkForm(t *testing.T, name string, call func(s string) (api.Form, int, api.Errno), s string, want api.Form, place int, e api.Errno) {
	t.Helper()
	if f, at, err := call(s); err != e || at != place || !syntax.Same(f, want) {
		t.Errorf("%s(%.200q): %s, %d, %d, not %s, %d, %d", name, s, full(f), at, err, full(want), place, e)
	}
}

// checkTerm tests what Term returns.
func checkTerm(t *testing.T, s string, want api.Term, place int, e api.Errno) {
	t.Helper()
	if x, at, err := Term(s); err != e || at != place || !syntax.SameTerm(x, want) {
		t.Errorf("Term(%.200q): %s, %d, %d, not %s, %d, %d", s, termText(x), at, err, termText(want), place, e)
	}
}

// checkForms tests what Forms returns.
func checkForms(t *testing.T, s string, want []api.Form, place int, e api.Errno) {
	t.Helper()
	if l, at, err := Forms(s); err != e || at != place || !slices.EqualFunc(l, want, syntax.Same) {
		t.Errorf("Forms(%.200q): %d formulas, %d, %d, not %d, %d, %d", s, len(l), at, err, len(want), place, e)
	}
}

// checkError tests an error of all functions for formulas.
func checkError(t *testing.T, s string, place int, e api.Errno) {
	t.Helper()
	checkForm(t, "Form", Form, s, api.Form{}, place, e)
	checkForm(t, "Schema", Schema, s, api.Form{}, place, e)
	checkForms(t, s, nil, place, e)
}

// checkFull tests a schema by its text with all brackets.
func checkFull(t *testing.T, s, want string) {
	t.Helper()
	f, at, e := Schema(s)
	if got := strings.Join(strings.Fields(full(f)), " "); got != want || at != 0 || e != api.OK {
		t.Errorf("%q: %s, %d, %d, not %s", s, got, at, e, want)
	}
}

var p, q, r = atom("P"), atom("Q"), atom("R")

// P5.1: what each sign and word makes.
func TestMeanings(t *testing.T) {
	x, a := variable("x"), function("a")
	for _, c := range []struct {
		s    string
		want api.Form
	}{
		{"P", p},
		{"P(x)", atom("P", x)},
		{"P(a)", atom("P", a)},
		{"Until2(a, f(x, a), x, g(g(u10)))", atom("Until2", a, function("f", x, a), x, function("g", function("g", variable("u10"))))},
		{"false", api.Form{Op: api.OpFalse}},
		{"~P", one1(api.OpNot, "", p)},
		{"[]P", one1(api.OpBox, "", p)},
		{"<>P", one1(api.OpDia, "", p)},
		{"next P", one1(api.OpNext, "", p)},
		{"always P", one1(api.OpAlways, "", p)},
		{"all x P", one1(api.OpAll, "x", p)},
		{"some w7 P", one1(api.OpSome, "w7", p)},
		{"P & Q", two(api.OpAnd, p, q)},
		{"P | Q", two(api.OpOr, p, q)},
		{"P -> Q", two(api.OpImp, p, q)},
		{"P <-> Q", two(api.OpIff, p, q)},
		{"P until Q", two(api.OpUntil, p, q)},
		{"(P)", p},
		{"((P))", p},
	} {
		checkForm(t, "Form", Form, c.s, c.want, 0, api.OK)
		checkForm(t, "Schema", Schema, c.s, c.want, 0, api.OK)
		checkForms(t, c.s, []api.Form{c.want}, 0, api.OK)
	}
	meta := api.Form{Op: api.OpMeta, Name: "?A"}
	inst := api.Form{Op: api.OpInst, Name: "?A", Args: []api.Term{x, variable("?t")}}
	checkForm(t, "Schema", Schema, "?A", meta, 0, api.OK)
	checkForm(t, "Schema", Schema, "?A[?t/x]", inst, 0, api.OK)
	checkForm(t, "Schema", Schema, "?A[?t/x] & some x ?A", two(api.OpAnd, inst, one1(api.OpSome, "x", meta)), 0, api.OK)
	checkForm(t, "Schema", Schema, "P(?t, f(?t))", atom("P", variable("?t"), function("f", variable("?t"))), 0, api.OK)
}

// P5.1: the chapter's examples, and how signs are grouped.
func TestGroups(t *testing.T) {
	for _, c := range []struct{ s, want string }{
		{"P & Q & R | S -> T -> U1", "((((P & Q) & R) | S) -> (T -> U1))"},
		{"all x P(x) & Q", "((all x P(x)) & Q)"},
		{"~[]P until Q until R", "((~ ([] P)) until (Q until R))"},
		{"P -> Q <-> R <-> S", "(((P -> Q) <-> R) <-> S)"},
		{"P & Q & R & S", "(((P & Q) & R) & S)"},
		{"P | Q | R | S", "(((P | Q) | R) | S)"},
		{"P <-> Q <-> R <-> S", "(((P <-> Q) <-> R) <-> S)"},
		{"P -> Q -> R -> S", "(P -> (Q -> (R -> S)))"},
		{"P until Q until R until S", "(P until (Q until (R until S)))"},
		{"P <-> Q -> R until S | T & U1", "(P <-> (Q -> (R until (S | (T & U1)))))"},
		{"P & Q | R until S -> T <-> U1", "(((((P & Q) | R) until S) -> T) <-> U1)"},
		{"P | Q & R | S", "((P | (Q & R)) | S)"},
		{"P until Q -> R until S", "((P until Q) -> (R until S))"},
		{"P -> Q until R -> S", "(P -> ((Q until R) -> S))"},
		{"P <-> Q -> R <-> S", "((P <-> (Q -> R)) <-> S)"},
		{"~P & Q", "((~ P) & Q)"},
		{"~(P & Q)", "(~ (P & Q))"},
		{"some x all y R(x, y) -> P", "((some x (all y R(x,y))) -> P)"},
		{"next always <> [] ~ false until P", "((next (always (<> ([] (~ false))))) until P)"},
		{"(P -> Q) -> R", "((P -> Q) -> R)"},
		{"P & (Q & R)", "(P & (Q & R))"},
		{"(P <-> Q) & (R | S) until ?A", "(((P <-> Q) & (R | S)) until ?A)"},
		{"?A[?t/x]->?B[ ?a / y2 ]", "(?A[?t/x] -> ?B[?a/y2])"},
		{"all x?A", "(all x ?A)"},
		{"~~?A", "(~ (~ ?A))"},
	} {
		checkFull(t, c.s, c.want)
	}
}

// P5.1: tokens that cannot stand where they do, in all sorts of places.
func TestSyntaxErrors(t *testing.T) {
	for _, c := range []struct {
		s     string
		place int
	}{
		{"P &", 3}, {"P Q", 2}, {"all a P", 4}, {"P(", 2}, {"P()", 2}, {"(P", 2},
		{"(", 1}, {")", 0}, {"()", 1}, {"P)", 1}, {"(P))", 3}, {"(P Q)", 3}, {"((P)", 4}, {"(P,Q)", 2},
		{"~", 1}, {"~)", 1}, {"~ & P", 2}, {"P ~", 2}, {"P ~ Q", 2}, {"P & & Q", 4}, {"& P", 0}, {"P -> <-> Q", 5}, {"P -> ", 5}, {"P until", 7}, {"until", 0}, {"P until until", 8}, {"P |\n", 4},
		{"all", 3}, {"all x", 5}, {"all P", 4}, {"all x y", 6}, {"all x & P", 6}, {"all x)", 5}, {"all (x) P", 4}, {"all false P", 4}, {"all all x P", 4}, {"some a", 5}, {"some ?t P", 5}, {"P all x", 2},
		{"x", 0}, {"a", 0}, {"f(a)", 0}, {"P & x", 4}, {"next1", 0}, {"next", 4}, {"next a", 5},
		{"P(P)", 2}, {"P(a", 3}, {"P(a b)", 4}, {"P(a,)", 4}, {"P(,a)", 2}, {"P(a,,b)", 4}, {"P(a,", 4}, {"P(x(a))", 3}, {"P((a))", 2}, {"P(f())", 4}, {"P(f(a)", 6}, {"P(f(a,)", 6}, {"P(a & b)", 4}, {"P(false)", 2}, {"P(a)(b)", 4}, {"P(~a)", 2}, {"P [", 2}, {"P[?t/x]", 1},
		{"false(a)", 5}, {"false false", 6}, {"/", 0}, {"P / Q", 2}, {"[", 0}, {"]", 0}, {"[ P ]", 0}, {"[[]P", 0}, {"P]", 1},
	} {
		checkError(t, c.s, c.place, ErrSyntax)
	}
	for _, s := range []string{"", " ", "\n \t"} {
		checkForm(t, "Form", Form, s, api.Form{}, len(s), ErrSyntax)
		checkForm(t, "Schema", Schema, s, api.Form{}, len(s), ErrSyntax)
	}
	checkForm(t, "Form", Form, "P, Q", api.Form{}, 1, ErrSyntax)
	checkForm(t, "Schema", Schema, "P, Q", api.Form{}, 1, ErrSyntax)
	checkForm(t, "Schema", Schema, "(P, Q)", api.Form{}, 2, ErrSyntax)
	checkForms(t, "(P, Q)", nil, 2, ErrSyntax)
}

// P5.1: wrong tokens in what schemas alone have.
func TestSyntaxErrorsOfSchemas(t *testing.T) {
	for _, c := range []struct {
		s     string
		place int
	}{
		{"?t", 0}, {"~?t", 1}, {"?A(a)", 2}, {"?A ?B", 3}, {"P(?A)", 2}, {"P(?t(a))", 4}, {"?A[", 3}, {"?A[]", 2}, {"?A[]P", 2}, {"?A[?B/x]", 3}, {"?A[a/x]", 3}, {"?A[x/x]", 3}, {"?A[?t x]", 6}, {"?A[?t/", 6}, {"?A[?t/]", 6}, {"?A[?t/?t]", 6}, {"?A[?t/a]", 6}, {"?A[?t/P]", 6}, {"?A[?t/x", 7}, {"?A[?t/x)", 7}, {"?A[?t/x][?t/x]", 8}, {"?A[?t/x](a)", 8}, {"?A[?t/all]", 6}, {"all ?t P", 4}, {"all ?A", 4},
	} {
		checkForm(t, "Schema", Schema, c.s, api.Form{}, c.place, ErrSyntax)
	}
}

// P5.1: the errors of layer 4, with their places, come first.
func TestErrorsOfLex(t *testing.T) {
	for _, c := range []struct {
		s     string
		place int
		e     api.Errno
	}{
		{"P & xy", 4, lex.ErrName},
		{"P & -", 4, lex.ErrChar},
		{") ) )  =", 7, lex.ErrChar},
		{strings.Repeat("~", 200) + "7", 200, lex.ErrChar},
		{"P(a, a, a, a, a) ?", 17, lex.ErrName},
		{strings.Repeat(" ", 16384), 16384, ErrSyntax},
		{strings.Repeat(" ", 16384) + "P", 0, api.ErrLong},
		{"P" + strings.Repeat(" ", 16384), 0, api.ErrLong},
		{")" + strings.Repeat("-", 16384), 0, api.ErrLong},
	} {
		checkForm(t, "Form", Form, c.s, api.Form{}, c.place, c.e)
		checkForm(t, "Schema", Schema, c.s, api.Form{}, c.place, c.e)
		checkTerm(t, c.s, api.Term{}, c.place, c.e)
		if c.e != ErrSyntax {
			checkForms(t, c.s, nil, c.place, c.e)
		}
	}
	checkForm(t, "Form", Form, strings.Repeat(" ", 16383)+"P", p, 0, api.OK)
}

// P5.1: each nest by itself, so many that a token may just stand within them, and one more; then any token is too deep.
func TestNests(t *testing.T) {
	for _, nest := range []string{"~", "[]", "<>", "next ", "always ", "all x ", "some y2 ", "(", "P->", "P until "} {
		most, more := strings.Repeat(nest, 120), strings.Repeat(nest, 121)
		f, at, e := Schema(most + "P" + strings.Repeat(")", strings.Count(most, "(")))
		if nest == "(" {
			if !syntax.Same(f, p) || at != 0 || e != api.OK {
				t.Errorf("brackets: %s, %d, %d", full(f), at, e)
			}
		} else {
			checkError(t, most+"P", 0, api.ErrLong)
		}
		checkError(t, most+"&", len(most), ErrSyntax)
		checkError(t, most+"P x", len(most)+2, ErrSyntax)
		for _, next := range []string{"P", "false", "~", "(", "all", "", ")", "&", "x", ",", "?A", "?t", "[", "until"} {
			checkError(t, more+next, len(more), ErrDeep)
		}
		checkError(t, most+"P(", len(most)+2, ErrDeep)
		checkError(t, most+"P()", len(most)+2, ErrDeep)
		checkError(t, most+"P(a)", len(most)+2, ErrDeep)
		checkError(t, most[len(nest):]+"P(f", len(most)-len(nest)+3, ErrSyntax)
		checkError(t, most[len(nest):]+"P(f(", len(most)-len(nest)+4, ErrDeep)
	}
	all := strings.Repeat("~", 120)
	checkError(t, all+"all x P", 126, ErrDeep)
	checkError(t, all+"all P", 124, ErrSyntax)
	checkError(t, all+"all", 123, ErrSyntax)
	checkForm(t, "Schema", Schema, all+"?A[?A", api.Form{}, 123, ErrSyntax)
	checkForm(t, "Schema", Schema, all+"?A[?t/x]", api.Form{}, 0, api.ErrLong)
}

// P5.1: what has ended, and what is grouped from the left, is no nest.
func TestNoNests(t *testing.T) {
	for _, s := range []string{"P & ", "P | ", "P <-> ", "~P & ", "(P) & ", "(P -> Q) | ", "P -> Q <-> ", "P until Q <-> ", "P(a) & ", "all x P(x) | ", "(P until Q) & "} {
		checkError(t, strings.Repeat(s, 130)+"P", 0, api.ErrLong)
		checkError(t, strings.Repeat(s, 130)+")", 130*len(s), ErrSyntax)
	}
	for _, s := range []string{"P until Q -> ", "~P -> ", "(P) -> ", "P(a) -> "} {
		checkError(t, strings.Repeat(s, 119)+"P -> P", 0, api.ErrLong)
		checkError(t, strings.Repeat(s, 119)+"P & Q -> P -> P", 119*len(s)+14, ErrDeep)
	}
	checkError(t, "P -> "+strings.Repeat("~", 119)+"P", 0, api.ErrLong)
	checkError(t, "P -> "+strings.Repeat("~", 120)+"P", 125, ErrDeep)
	checkError(t, "P <-> "+strings.Repeat("~", 120)+"P", 0, api.ErrLong)
	checkError(t, "P -> Q <-> "+strings.Repeat("~", 120)+"P", 0, api.ErrLong)
	checkError(t, "P until Q -> "+strings.Repeat("~", 119)+"P", 0, api.ErrLong)
	checkError(t, "P -> Q & "+strings.Repeat("~", 120)+"P", 129, ErrDeep)
	checkError(t, "P -> Q until "+strings.Repeat("~", 119)+"P", 132, ErrDeep)
	checkError(t, "P(f(a)) & "+strings.Repeat("(", 120)+"P(a)", 132, ErrDeep)
	checkError(t, strings.Repeat("(", 120)+"P"+strings.Repeat(")", 120)+" & "+strings.Repeat("~", 120)+"P", 0, api.ErrLong)
}

// P5.1, P5.2: of a wrong token and one that is too deep, the first one counts, and ErrDeep if they are the same.
func TestFirstError(t *testing.T) {
	deep := strings.Repeat("~", 121)
	checkError(t, deep+"P &", 121, ErrDeep)
	checkError(t, "P Q & "+deep+"P", 2, ErrSyntax)
	checkError(t, deep, 121, ErrDeep)
	checkForm(t, "Form", Form, "?A & "+deep+"P", api.Form{}, 0, ErrSyntax)
	checkForm(t, "Schema", Schema, "?A & "+deep+"P", api.Form{}, 126, ErrDeep)
	checkForm(t, "Form", Form, deep+"?A", api.Form{}, 121, ErrDeep)
	checkForm(t, "Form", Form, deep+"P ?A", api.Form{}, 121, ErrDeep)
	checkForm(t, "Form", Form, "P Q ?A", api.Form{}, 2, ErrSyntax)
	checkForm(t, "Form", Form, "P ?A", api.Form{}, 2, ErrSyntax)
}

// P5.1: formulas that are just within the limits of layer 2, and some that are not.
func TestLong(t *testing.T) {
	checkError(t, "P(a, a, a, a, a)", 0, api.ErrLong)
	checkError(t, "P & Q(f(a, a, a, a, a))", 0, api.ErrLong)
	checkForm(t, "Form", Form, "P(a, a, a, a)", atom("P", function("a"), function("a"), function("a"), function("a")), 0, api.OK)
	checkForm(t, "Schema", Schema, "P(?t, ?t, ?t, ?t, ?t)", api.Form{}, 0, api.ErrLong)
	checkForm(t, "Form", Form, strings.Repeat("~", 39)+"P", nots(39, p), 0, api.OK)
	checkError(t, strings.Repeat("~", 40)+"P", 0, api.ErrLong)
	checkForm(t, "Form", Form, strings.Repeat("~", 38)+"P(a)", nots(38, atom("P", function("a"))), 0, api.OK)
	checkError(t, strings.Repeat("~", 39)+"P(a)", 0, api.ErrLong)
	checkForm(t, "Schema", Schema, strings.Repeat("~", 39)+"?A", nots(39, api.Form{Op: api.OpMeta, Name: "?A"}), 0, api.OK)
	checkForm(t, "Schema", Schema, strings.Repeat("~", 39)+"?A[?t/x]", api.Form{}, 0, api.ErrLong)
	most := two(api.OpAnd, two(api.OpAnd, balanced(7), balanced(6)), nots(11, atom("P", function("a"), function("a"), function("a"), function("a")))) // 255 + 127 + 16 nodes, and 2 for the signs between
	checkForm(t, "Form", Form, full(most), most, 0, api.OK)
	checkError(t, "~"+full(most), 0, api.ErrLong)
	checkError(t, "P"+strings.Repeat("&P", 8191), 0, api.ErrLong)
	checkError(t, "P("+strings.Repeat("a,", 8190)+"a)", 0, api.ErrLong)
}

// nots returns a formula below n negations.
func nots(n int, f api.Form) api.Form {
	for range n {
		f = one1(api.OpNot, "", f)
	}
	return f
}

// balanced returns a formula of 2^(n+1) - 1 nodes.
func balanced(n int) api.Form {
	if n == 0 {
		return p
	}
	return two(api.OpAnd, balanced(n-1), balanced(n-1))
}

// P5.2: a metavariable cannot stand anywhere in a formula.
func TestFormHasNoMetas(t *testing.T) {
	for _, c := range []struct {
		s     string
		place int
	}{{"?A", 0}, {"?A[?t/x]", 0}, {"P & ?A", 4}, {"P(?t)", 2}, {"P(a, f(?t))", 7}, {"~?A ?B", 1}, {"(?A", 1}, {"P(a ?t)", 4}, {"all ?t P", 4}} {
		checkForm(t, "Form", Form, c.s, api.Form{}, c.place, ErrSyntax)
		checkForms(t, c.s, nil, c.place, ErrSyntax)
		checkForms(t, "Q, "+c.s, nil, c.place+3, ErrSyntax)
	}
}

// P5.2: terms.
func TestTerm(t *testing.T) {
	for _, c := range []struct {
		s    string
		want api.Term
	}{
		{"x", variable("x")},
		{" u10\n", variable("u10")},
		{"a", function("a")},
		{"next1", function("next1")},
		{"f(x)", function("f", variable("x"))},
		{"f(a, g(x, b), z, h)", function("f", function("a"), function("g", variable("x"), function("b")), variable("z"), function("h"))},
	} {
		checkTerm(t, c.s, c.want, 0, api.OK)
	}
	for _, c := range []struct {
		s     string
		place int
	}{{"", 0}, {"  ", 2}, {"P", 0}, {"?t", 0}, {"?A", 0}, {"f(?t)", 2}, {"f(a, ?A)", 5}, {"x y", 2}, {"x(a)", 1}, {"f()", 2}, {"f(", 2}, {"f(a", 3}, {"f(a,", 4}, {"f(a))", 4}, {"(a)", 0}, {"a, b", 1}, {"~a", 0}, {"false", 0}, {"all", 0}, {"f(P)", 2}, {"f(a)(b)", 4}, {"a ?t", 2}, {")", 0}} {
		checkTerm(t, c.s, api.Term{}, c.place, ErrSyntax)
	}
}

// P5.2: terms that are just within the limits, and some that are not.
func TestTermLimits(t *testing.T) {
	chain := func(n int) string { return strings.Repeat("f(", n) + "a" + strings.Repeat(")", n) }
	deep := function("a")
	for range 39 {
		deep = function("f", deep)
	}
	checkTerm(t, chain(39), deep, 0, api.OK)
	checkTerm(t, chain(40), api.Term{}, 0, api.ErrLong)
	checkTerm(t, chain(120), api.Term{}, 0, api.ErrLong)
	checkTerm(t, chain(121), api.Term{}, 242, ErrDeep)
	checkTerm(t, strings.Repeat("f(", 121), api.Term{}, 242, ErrDeep)
	checkTerm(t, strings.Repeat("f(", 120), api.Term{}, 240, ErrSyntax)
	checkTerm(t, strings.Repeat("f(", 120)+"a b"+strings.Repeat("f(", 120), api.Term{}, 242, ErrSyntax)
	checkTerm(t, "f(a, a, a, a)", function("f", function("a"), function("a"), function("a"), function("a")), 0, api.OK)
	checkTerm(t, "f(a, a, a, a, a)", api.Term{}, 0, api.ErrLong)
	checkTerm(t, "f(g(a, a, a, a, a))", api.Term{}, 0, api.ErrLong)
	three := "f(x,x,x)" // 4 nodes
	for range 3 {       // 13, 40, 121
		three = "f(" + three + "," + three + "," + three + ")"
	}
	if nodes, _ := size(termOf(t, "f("+three+","+three+","+three+",g("+strings.Repeat("f(", 34)+"a"+strings.Repeat(")", 35)+")")); nodes != 400 {
		t.Errorf("%d nodes", nodes)
	}
	checkTerm(t, "f("+three+","+three+","+three+",g("+strings.Repeat("f(", 35)+"a"+strings.Repeat(")", 36)+")", api.Term{}, 0, api.ErrLong)
	checkTerm(t, "f("+three+","+three+","+three+","+three+")", api.Term{}, 0, api.ErrLong)
}

// termOf returns the term that a text is.
func termOf(t *testing.T, s string) api.Term {
	t.Helper()
	x, at, e := Term(s)
	if at != 0 || e != api.OK {
		t.Errorf("%q: %d, %d", s, at, e)
	}
	return x
}

// P5.3: lists of formulas.
func TestForms(t *testing.T) {
	for _, c := range []struct {
		s    string
		want []api.Form
	}{
		{"", nil},
		{" \t\r\n", nil},
		{"P", []api.Form{p}},
		{"P, Q", []api.Form{p, q}},
		{"P,Q,R", []api.Form{p, q, r}},
		{"P, P", []api.Form{p, p}},
		{"P -> Q, (R)", []api.Form{two(api.OpImp, p, q), r}},
		{"P(x, a), Q", []api.Form{atom("P", variable("x"), function("a")), q}},
		{"all x P, ~Q", []api.Form{one1(api.OpAll, "x", p), one1(api.OpNot, "", q)}},
	} {
		checkForms(t, c.s, c.want, 0, api.OK)
	}
	for _, c := range []struct {
		s     string
		place int
		e     api.Errno
	}{
		{",", 0, ErrSyntax}, {"P,", 2, ErrSyntax}, {"P, ", 3, ErrSyntax}, {"P,,Q", 2, ErrSyntax}, {",P", 0, ErrSyntax}, {"P Q", 2, ErrSyntax}, {"(P, Q)", 2, ErrSyntax}, {"P, Q)", 4, ErrSyntax}, {"P, x", 3, ErrSyntax}, {"P, ?A", 3, ErrSyntax},
		{"P, xy", 3, lex.ErrName},
		{"P, Q(a, a, a, a, a)", 0, api.ErrLong}, {"Q(a, a, a, a, a), P", 0, api.ErrLong}, {"Q(a, a, a, a, a), P Q", 20, ErrSyntax},
		{"P -> Q, " + strings.Repeat("~", 121), 129, ErrDeep},
	} {
		checkForms(t, c.s, nil, c.place, c.e)
	}
	checkForms(t, strings.Repeat("~", 39)+"P,"+strings.Repeat("~", 39)+"Q", []api.Form{nots(39, p), nots(39, q)}, 0, api.OK)
	checkForms(t, "P -> Q, "+strings.Repeat("~", 120)+"P", nil, 0, api.ErrLong)
}

// P5.3: how many formulas there may be; other errors come ahead of there being too many.
func TestFormsLimit(t *testing.T) {
	list := func(n int) string { return strings.Repeat("P,", n-1) + "P" }
	checkForms(t, list(64), slices.Repeat([]api.Form{p}, 64), 0, api.OK)
	checkForms(t, list(65), nil, 0, api.ErrMany)
	checkForms(t, list(8192), nil, 0, api.ErrMany)
	checkForms(t, list(65)+",", nil, 130, ErrSyntax)
	checkForms(t, list(100)+","+strings.Repeat("~", 121)+"P", nil, 321, ErrDeep)
	checkForms(t, list(100)+", P(a, a, a, a, a)", nil, 0, api.ErrLong)
	checkForms(t, "P(a, a, a, a, a),"+list(100), nil, 0, api.ErrLong)
	checkForms(t, list(100)+" x", nil, 200, ErrSyntax)
	checkForms(t, list(100)+"-", nil, 199, lex.ErrChar)
}

// P5.4: brackets that are not needed, and blanks, change nothing.
func TestBracketsAndBlanks(t *testing.T) {
	d := fixed(3)
	for range 3000 {
		f := d.form(5, true)
		checkForm(t, "Schema", Schema, full(f), f, 0, api.OK)
		plain := d.tokens(f, 0, false)
		checkForm(t, "Schema", Schema, strings.Join(plain, " "), f, 0, api.OK)
		checkForm(t, "Schema", Schema, d.joined(plain), f, 0, api.OK)
		checkForm(t, "Schema", Schema, d.joined(bracketed(plain)), f, 0, api.OK)
		checkForm(t, "Schema", Schema, d.joined(d.tokens(f, 0, true)), f, 0, api.OK)
	}
}

// P5.4: an error changes nothing for texts that are read after it, and with an error there is nothing else.
func TestNoErrorStays(t *testing.T) {
	texts := []string{"P &", "P -> Q", strings.Repeat("~", 121), "~P", "", "xy", "P(a, a, a, a, a)", "?A", "all x P(x)", ")", "(P"}
	for _, s := range texts {
		want, at, e := modelForm(s, false)
		for _, other := range texts {
			Form(other)
			checkForm(t, "Form", Form, s, want, at, e)
		}
	}
}

// Results share no memory, neither with other results nor with other parts of the same.
func TestMemory(t *testing.T) {
	const text = "(P(a, f(a)) & P(a, f(a))) -> P(a, f(a))"
	f, _, _ := Form(text)
	g, _, _ := Form(text)
	wipe(&f.Sub[0].Sub[0])
	clear(f.Sub[1].Args[:cap(f.Sub[1].Args)])
	if part := f.Sub[0].Sub[1]; full(part) != "P(a,f(a))" {
		t.Errorf("a part beside it: %s", full(part))
	}
	checkForm(t, "Form", Form, text, g, 0, api.OK)
	l, _, _ := Forms("P(a), P(a), P(a)")
	clear(l[0].Args[:cap(l[0].Args)])
	if full(l[1]) != "P(a)" || full(l[2]) != "P(a)" {
		t.Errorf("formulas beside it: %s, %s", full(l[1]), full(l[2]))
	}
}

// wipe overwrites all that is in a formula.
func wipe(f *api.Form) {
	for i := range f.Sub {
		wipe(&f.Sub[i])
	}
	for i := range f.Args {
		clear(f.Args[i].Args[:cap(f.Args[i].Args)])
	}
	clear(f.Args[:cap(f.Args)])
	clear(f.Sub[:cap(f.Sub)])
}
