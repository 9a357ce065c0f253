package match

import (
	"slices"
	"strings"
	"testing"

	"lyceum/api"
	"lyceum/syntax"
)

// P7.1: which bindings are valid.
func TestValid(t *testing.T) {
	p, a := form("P"), function("a")
	forms := func(l ...FormBind) Binding { return Binding{Forms: l} }
	terms := func(l ...TermBind) Binding { return Binding{Terms: l} }
	for _, c := range []struct {
		what string
		b    Binding
		want bool
	}{
		{"nothing", Binding{}, true},
		{"empty lists", Binding{[]FormBind{}, []TermBind{}}, true},
		{"both sorts", bindings("?A: P & Q; ?B: all x R(x, ?x, ?y12); ?a: a; ?t: f(?x, x)"), true},
		{"a placeholder", bindings("?t: ?x"), true},
		{"names as strings", forms(FormBind{"?A", p}, FormBind{"?A1", p}, FormBind{"?A10", p}, FormBind{"?A2", p}, FormBind{"?AB", p}, FormBind{"?B", p}), true},
		{"numbers", forms(FormBind{"?A2", p}, FormBind{"?A10", p}), false},
		{"a name twice", forms(FormBind{"?A", p}, FormBind{"?A", p}), false},
		{"decreasing names", forms(FormBind{"?B", p}, FormBind{"?A", p}), false},
		{"decreasing at the end", forms(FormBind{"?A", p}, FormBind{"?C", p}, FormBind{"?B", p}), false},
		{"a term's name twice", terms(TermBind{"?t", a}, TermBind{"?t", a}), false},
		{"decreasing names of terms", terms(TermBind{"?t", a}, TermBind{"?s", a}), false},
		{"increasing names of terms", terms(TermBind{"?s", a}, TermBind{"?sA", a}, TermBind{"?t", a}), true},
		{"a formula for a term", forms(FormBind{"?t", p}), false},
		{"a term for a formula", terms(TermBind{"?A", a}), false},
		{"a placeholder's name", terms(TermBind{"?x", a}), false},
		{"a long name", forms(FormBind{"?A12345678901234", p}), true},
		{"too long a name", forms(FormBind{"?A123456789012345", p}), false},
		{"a placeholder of a long variable", terms(TermBind{"?t", variable("?x123456789012345")}), true},
		{"a placeholder of too long a variable", terms(TermBind{"?t", variable("?x1234567890123456")}), false},
		{"a wrong formula", forms(FormBind{"?A", api.Form{}}), false},
		{"a wrong formula behind a right one", forms(FormBind{"?A", p}, FormBind{"?B", atom("p")}), false},
		{"a schema", forms(FormBind{"?A", meta("?B")}), false},
		{"an instance", forms(FormBind{"?A", form("?B[?t/x]")}), false},
		{"a schema's term", forms(FormBind{"?A", form("P(?t)")}), false},
		{"a wrong term", terms(TermBind{"?t", api.Term{}}), false},
		{"a term of a schema", terms(TermBind{"?s", a}, TermBind{"?t", variable("?s")}), false},
		{"a placeholder with Args", terms(TermBind{"?t", api.Term{Var: true, Name: "?x", Args: []api.Term{a}}}), false},
		{"a function with a placeholder's name", terms(TermBind{"?t", function("?x")}), false},
		{"two marks", terms(TermBind{"?t", variable("??x")}), false},
		{"a mark alone", terms(TermBind{"?t", variable("?")}), false},
		{"no name", terms(TermBind{"?t", variable("")}), false},
		{"five Args", terms(TermBind{"?t", function("f", a, a, a, a, a)}), false},
		{"a quantifier of a placeholder", forms(FormBind{"?A", one(api.OpAll, "?x", p)}), false},
		{"a wrong list behind a right one", Binding{[]FormBind{{"?A", p}}, []TermBind{{"", a}}}, false},
	} {
		if got := Valid(c.b); got != c.want {
			t.Errorf("%s: %v", c.what, got)
		}
	}
}

// P7.1: the sizes of formulas are limited, those of terms are not.
func TestValidSizes(t *testing.T) {
	x := variable("?x")
	for _, c := range []struct {
		f    api.Form
		want bool
	}{
		{conjunction(200, form("P")), true},
		{nots(1, conjunction(200, form("P"))), true},
		{and(form("P"), conjunction(200, form("P"))), false},
		{nots(39, form("P")), true},
		{nots(40, form("P")), false},
		{atom("P", nested(38, x)), true},
		{atom("P", nested(39, x)), false},
		{atom("P", wide(399, x)), true},
		{atom("P", wide(400, x)), false},
		{nots(deep, form("P")), false},
		{atom("P", nested(deep, x)), false},
	} {
		if got := Valid(Binding{Forms: []FormBind{{"?A", c.f}}}); got != c.want {
			t.Errorf("%d nodes, a depth of %d: %v", syntax.Nodes(c.f), syntax.Depth(c.f), got)
		}
	}
	for _, u := range []api.Term{nested(deep, x), wide(100000, x)} {
		if !Valid(Binding{Terms: []TermBind{{"?t", u}}}) {
			t.Error("a large term is not valid")
		}
	}
	if Valid(Binding{Terms: []TermBind{{"?t", nested(deep, variable("?t"))}}}) {
		t.Error("a wrong term in a large one is valid")
	}
}

// P7.1: what a metavariable stands for: the first element with its Name, whether the binding is valid or not.
func TestFormAndTerm(t *testing.T) {
	strange := api.Form{Op: 99, Name: "z", Args: []api.Term{{Var: true, Args: []api.Term{{}}}}, Sub: []api.Form{{}}}
	term := api.Term{Var: true, Name: "?", Args: []api.Term{function("")}}
	b := Binding{
		[]FormBind{{"?B", form("Q")}, {"?A", strange}, {"?A", form("P")}, {"", form("R")}, {"?t", form("S")}},
		[]TermBind{{"?t", term}, {"?s", function("a")}, {"?t", function("b")}, {"?A", function("c")}},
	}
	for _, c := range []struct {
		name string
		want api.Form
		ok   bool
	}{{"?A", strange, true}, {"?B", form("Q"), true}, {"", form("R"), true}, {"?t", form("S"), true}, {"?C", api.Form{}, false}, {"A", api.Form{}, false}, {"?s", api.Form{}, false}} {
		if f, ok := Form(b, c.name); ok != c.ok || !syntax.Same(f, c.want) {
			t.Errorf("the formula of %q: %v, %v", c.name, f, ok)
		}
	}
	for _, c := range []struct {
		name string
		want api.Term
		ok   bool
	}{{"?t", term, true}, {"?s", function("a"), true}, {"?A", function("c"), true}, {"?B", api.Term{}, false}, {"", api.Term{}, false}} {
		if u, ok := Term(b, c.name); ok != c.ok || !syntax.SameTerm(u, c.want) {
			t.Errorf("the term of %q: %v, %v", c.name, u, ok)
		}
	}
	if _, ok := Form(Binding{}, ""); ok {
		t.Error("a formula of an empty binding")
	}
	if _, ok := Term(Binding{}, ""); ok {
		t.Error("a term of an empty binding")
	}
}

// P7.1: results have memory of their own.
func TestFormAndTermMemory(t *testing.T) {
	b := Binding{[]FormBind{{"?A", form("P(f(a)) & Q")}}, []TermBind{{"?t", term("f(g(a))")}}}
	f, _ := Form(b, "?A")
	u, _ := Term(b, "?t")
	f.Sub[0].Args[0].Args[0].Name, f.Sub[1].Name, u.Args[0].Args[0].Name, u.Args[0].Name = "z", "Z", "z", "z"
	if got := showBinding(b); got != "?A: P(f(a)) & Q; ?t: f(g(a))" {
		t.Errorf("the binding has become %s", got)
	}
}

// P7.1: the metavariables of schemas, and of any other formulas.
func TestMetas(t *testing.T) {
	for _, c := range []struct {
		f    api.Form
		want string
	}{
		{form("P & Q"), ""},
		{form("?A"), "?A"},
		{form("?B -> ?A -> ?B"), "?A ?B"},
		{form("all x ?A[?t/x] | P(f(?s, x, ?a10), ?a2)"), "?A ?a10 ?a2 ?s ?t"},
		{api.Form{}, ""},
		{meta("?t"), "?t"},
		{meta("A"), ""},
		{meta("?x"), ""},
		{api.Form{Op: api.OpInst, Name: "?s", Args: []api.Term{variable("?A"), variable("?t"), variable("?x")}}, "?A ?s ?t"},
		{api.Form{Op: api.OpAtom, Name: "?A", Args: []api.Term{function("?t"), {Var: true, Name: "?B", Args: []api.Term{variable("?c")}}}}, "?B ?c"},
		{api.Form{Op: api.OpAll, Name: "?t", Sub: []api.Form{atom("P", variable("?t")), meta("?A"), meta("?A")}}, "?A ?t"},
		{api.Form{Op: api.OpMeta, Name: "?B", Args: []api.Term{variable("?A")}, Sub: []api.Form{meta("?C")}}, "?A ?B ?C"},
		{api.Form{Op: 200, Name: "?A", Sub: []api.Form{{Op: api.OpFalse, Name: "?B", Args: []api.Term{variable("?C")}}}}, "?C"},
		{nots(deep, atom("P", nested(deep, variable("?t")))), "?t"},
	} {
		if got := strings.Join(Metas(c.f), " "); got != c.want {
			t.Errorf("%s is not %s", got, c.want)
		}
	}
	long := conjunction(2000, meta("?A"))
	if got := Metas(long); !slices.Equal(got, []string{"?A"}) {
		t.Errorf("the metavariables of a long schema: %v", got)
	}
}
