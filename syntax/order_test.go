package syntax

import (
	"cmp"
	"testing"

	"lyceum/api"
)

// increasingTerms returns terms in strictly increasing order, right ones and others.
func increasingTerms() []api.Term {
	a, b, x := function("a"), function("b"), variable("x")
	return []api.Term{
		variable(""),
		variable("a"),
		x,
		{Var: true, Name: "x", Args: []api.Term{x}},
		{Var: true, Name: "x", Args: []api.Term{a}},
		variable("x1"),
		variable("x10"),
		variable("x2"),
		variable("y"),
		{},
		function("", b),
		function("A"),
		a,
		function("a", x),
		function("a", variable("y")),
		function("a", a),
		function("a", function("a", a)),
		function("a", function("a", b)),
		function("a", b),
		function("a", x, b),
		function("a", a, a),
		function("a", a, b),
		function("a", b, a),
		function("a", x, x, x),
		function("aa"),
		b,
		function("z"),
		function("\xff"),
	}
}

// increasing returns formulas in strictly increasing order, right ones and others.
func increasing() []api.Form {
	p, q, a := atom("P"), atom("Q"), function("a")
	l := []api.Form{
		{},
		{Name: "z"},
		atom(""),
		atom("P"),
	}
	for _, t := range increasingTerms() {
		l = append(l, atom("P", t))
	}
	return append(l, []api.Form{
		atom("P", a, a),
		atom("P", a, function("b")),
		atom("P", function("b"), variable("x")),
		{Op: api.OpAtom, Name: "P", Args: []api.Term{function("b"), a}},
		{Op: api.OpAtom, Name: "P", Args: []api.Term{function("b"), a}, Sub: []api.Form{p}},
		{Op: api.OpAtom, Name: "P", Args: []api.Term{function("b"), a}, Sub: []api.Form{q}},
		{Op: api.OpAtom, Name: "P", Args: []api.Term{function("b"), a}, Sub: []api.Form{p, p}},
		atom("P", variable("x"), variable("x"), variable("x")),
		atom("P1"),
		atom("P10"),
		atom("P2"),
		atom("Q"),
		join(api.OpFalse),
		join(api.OpNot),
		not(p),
		not(q),
		not(not(p)),
		not(not(q)),
		join(api.OpNot, p, p),
		join(api.OpAnd, p, p),
		join(api.OpAnd, p, q),
		join(api.OpAnd, q, p),
		join(api.OpAnd, q, not(p)),
		join(api.OpAnd, not(p), p),
		join(api.OpOr, p, p),
		join(api.OpImp, p, p),
		bind(api.OpAll, "x", q),
		bind(api.OpAll, "y", p),
		bind(api.OpSome, "x", p),
		join(api.OpUntil, p, p),
		meta("?A"),
		inst("?A", variable("x"), variable("?t")),
		{Op: 200},
		{Op: 255, Name: "a"},
	}...)
}

// P2.2, P2.5: the order, for each pair of a list that is in order; the criteria come one behind the other.
func TestCompare(t *testing.T) {
	l := increasing()
	for i, a := range l {
		for j, b := range l {
			if got := Compare(a, b); got != cmp.Compare(i, j) {
				t.Errorf("Compare(%s, %s) is %d", text(a), text(b), got)
			}
			if got := Same(a, b); got != (i == j) {
				t.Errorf("Same(%s, %s) is %v", text(a), text(b), got)
			}
		}
	}
}

// P2.2: terms are equal if all their fields are.
func TestSameTerm(t *testing.T) {
	l := increasingTerms()
	for i, a := range l {
		for j, b := range l {
			if got := SameTerm(a, b); got != (i == j) {
				t.Errorf("SameTerm(%s, %s) is %v", termText(a), termText(b), got)
			}
		}
		if !SameTerm(a, copyTerm(a)) {
			t.Errorf("%s is not equal to its copy", termText(a))
		}
	}
}

// P2.2: lists without elements are equal, whether they are nil or not.
func TestEmptyLists(t *testing.T) {
	term := api.Term{Name: "a", Args: []api.Term{}}
	f := api.Form{Op: api.OpAtom, Name: "P", Args: []api.Term{term}, Sub: []api.Form{}}
	g := atom("P", function("a"))
	if !Same(f, g) || !Same(g, f) || Compare(f, g) != 0 || Compare(g, f) != 0 || !SameTerm(term, function("a")) {
		t.Error("empty lists are not equal to none")
	}
}

// P2.5: two formulas are equal, or exactly one comes ahead, and what comes ahead of what comes ahead does, too.
func TestOrderIsTotal(t *testing.T) {
	l := append(some(60), increasing()...)
	for _, a := range l {
		for _, b := range l {
			ab := Compare(a, b)
			if ab != -Compare(b, a) || ab < -1 || ab > 1 {
				t.Fatalf("%s, %s: %d, and %d the other way round", text(a), text(b), ab, Compare(b, a))
			}
			if same := text(a) == text(b); Same(a, b) != same || (ab == 0) != same {
				t.Fatalf("%s, %s: %d, Same is %v", text(a), text(b), ab, Same(a, b))
			}
			if ab > 0 {
				continue
			}
			for _, c := range l {
				if bc := Compare(b, c); bc <= 0 && Compare(a, c) != min(ab, bc) {
					t.Fatalf("%s, %s, %s: %d, %d, %d", text(a), text(b), text(c), ab, bc, Compare(a, c))
				}
			}
		}
	}
}

// P2.2: formulas of many levels are compared, too.
func TestCompareDeep(t *testing.T) {
	p, q := nots(deep, atom("P", nested(deep, function("a")))), nots(deep, atom("P", nested(deep, function("b"))))
	if Compare(p, q) != -1 || Compare(q, p) != 1 || Same(p, q) || !Same(p, Copy(p)) {
		t.Error("formulas of many levels are not compared")
	}
}
