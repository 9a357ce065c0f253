package syntax

import (
	"testing"

	"lyceum/api"
)

// checkRight tests a formula that is expected to be a right formula, or a right schema, or none.
func checkRight(t *testing.T, what string, f api.Form, right, schema bool) {
	t.Helper()
	if got := Right(f); got != right {
		t.Errorf("Right of %s: %v", what, got)
	}
	if got := Schema(f); got != schema {
		t.Errorf("Schema of %s: %v", what, got)
	}
}

// P2.1: terms.
func TestTerm(t *testing.T) {
	x, a := variable("x"), function("a")
	for _, c := range []struct {
		what string
		term api.Term
		want bool
	}{
		{"a variable", x, true},
		{"a constant", a, true},
		{"a function", function("f", x, a, function("g", x)), true},
		{"four arguments", function("f", a, x, a, x), true},
		{"five arguments", function("f", a, x, a, x, a), false},
		{"five arguments inside", function("f", function("f", a, x, a, x, a)), false},
		{"the zero term", api.Term{}, false},
		{"a variable that is not Var", function("x"), false},
		{"a function that is Var", variable("a"), false},
		{"a predicate", function("P"), false},
		{"a predicate that is Var", variable("P"), false},
		{"no name", variable(""), false},
		{"a word", function("all"), false},
		{"a variable with an argument", api.Term{Var: true, Name: "x", Args: []api.Term{a}}, false},
		{"a variable with an empty list", api.Term{Var: true, Name: "x", Args: []api.Term{}}, true},
		{"a metavariable", variable("?t"), false},
		{"a metavariable that is not Var", function("?t"), false},
		{"a metavariable inside", function("f", variable("?t")), false},
		{"a wrong argument", function("f", a, function("x")), false},
		{"a wrong argument deep inside", nested(30, function("f", a, variable("a"))), false},
		{"more levels than a formula has", nested(deep, a), true},
		{"a wrong term below many levels", nested(deep, variable("a")), false},
	} {
		if got := Term(c.term); got != c.want {
			t.Errorf("%s: %v", c.what, got)
		}
	}
}

// P2.1: a term may be of any size, as the limits are those of formulas.
func TestTermsHaveNoLimit(t *testing.T) {
	term := function("a")
	for range 8 {
		term = function("f", term, term)
	}
	if !Term(term) {
		t.Error("a term of 511 nodes is not right")
	}
	checkRight(t, "a formula with that term", atom("P", term), false, false)
}

// P2.1: each Op with what its row asks for.
func TestRows(t *testing.T) {
	p := atom("P")
	for op := range 256 {
		f := api.Form{Op: uint8(op)}
		right, schema := false, false
		switch f.Op {
		case api.OpAtom:
			f.Name, right = "P", true
		case api.OpFalse:
			right = true
		case api.OpNot, api.OpBox, api.OpDia, api.OpNext, api.OpAlways:
			f.Sub, right = []api.Form{p}, true
		case api.OpAnd, api.OpOr, api.OpImp, api.OpIff, api.OpUntil:
			f.Sub, right = []api.Form{p, p}, true
		case api.OpAll, api.OpSome:
			f.Name, f.Sub, right = "x", []api.Form{p}, true
		case api.OpMeta:
			f.Name, schema = "?A", true
		case api.OpInst:
			f.Name, f.Args, schema = "?A", []api.Term{variable("x"), variable("?t")}, true
		}
		checkRight(t, text(f), f, right, right || schema)
		checkRight(t, text(not(f)), not(f), right, right || schema)
	}
}

// P2.1: in each row, every other Name and every other number of Args and Sub is wrong.
func TestRowsAreExact(t *testing.T) {
	names := []string{"", "P", "x", "a", "?A", "?t", "all", "until", "P_", "x_"}
	for op := range 20 {
		for _, name := range names {
			for args := range 7 {
				for sub := range 4 {
					f := api.Form{Op: uint8(op), Name: name}
					for range args {
						f.Args = append(f.Args, function("a"))
					}
					for range sub {
						f.Sub = append(f.Sub, atom("Q"))
					}
					right := false
					switch f.Op {
					case api.OpAtom:
						right = name == "P" && args <= 4 && sub == 0
					case api.OpFalse:
						right = name == "" && args == 0 && sub == 0
					case api.OpNot, api.OpBox, api.OpDia, api.OpNext, api.OpAlways:
						right = name == "" && args == 0 && sub == 1
					case api.OpAnd, api.OpOr, api.OpImp, api.OpIff, api.OpUntil:
						right = name == "" && args == 0 && sub == 2
					case api.OpAll, api.OpSome:
						right = name == "x" && args == 0 && sub == 1
					}
					schema := right || f.Op == api.OpMeta && name == "?A" && args == 0 && sub == 0
					checkRight(t, text(f), f, right, schema) // an OpInst has other Args
				}
			}
		}
	}
}

// P2.1: what schemas may have, and where.
func TestSchema(t *testing.T) {
	x, a, mt, ma := variable("x"), function("a"), variable("?t"), variable("?A")
	for _, c := range []struct {
		what          string
		f             api.Form
		right, schema bool
	}{
		{"an atom of right terms", atom("P", x, function("f", a, x)), true, true},
		{"an atom of a metavariable", atom("P", mt), false, true},
		{"an atom of a metavariable in a function", atom("P", function("f", x, mt)), false, true},
		{"an atom of a metavariable of formulas", atom("P", ma), false, false},
		{"an atom of a metavariable that is not Var", atom("P", function("?t")), false, false},
		{"an atom of a metavariable with an argument", atom("P", api.Term{Var: true, Name: "?t", Args: []api.Term{a}}), false, false},
		{"an atom of a wrong term", atom("P", function("x")), false, false},
		{"an atom of a wrong term behind a right one", atom("P", a, variable("a")), false, false},
		{"an atom of a term with five arguments", atom("P", function("f", a, a, a, a, a)), false, false},
		{"an atom called by a metavariable", atom("?A"), false, false},
		{"a metavariable", meta("?A"), false, true},
		{"a metavariable of terms as a formula", meta("?t"), false, false},
		{"a metavariable without a mark", meta("A"), false, false},
		{"a metavariable without a name", meta(""), false, false},
		{"metavariables below operators", bind(api.OpAll, "x", join(api.OpImp, meta("?A"), not(meta("?B")))), false, true},
		{"a quantifier of a metavariable of terms", bind(api.OpAll, "?t", meta("?A")), false, false},
		{"a quantifier of a metavariable of formulas", bind(api.OpSome, "?A", meta("?A")), false, false},
		{"an instance", inst("?A", x, mt), false, true},
		{"an instance below operators", join(api.OpOr, atom("P"), not(inst("?A", variable("u7"), mt))), false, true},
		{"an instance without Args", inst("?A"), false, false},
		{"an instance with one of its Args", inst("?A", x), false, false},
		{"an instance with three Args", inst("?A", x, mt, mt), false, false},
		{"an instance of a metavariable of terms", inst("?t", x, mt), false, false},
		{"an instance of a predicate", inst("P", x, mt), false, false},
		{"an instance with a variable for the metavariable", inst("?A", x, x), false, false},
		{"an instance with a constant for the metavariable", inst("?A", x, a), false, false},
		{"an instance with a metavariable of formulas", inst("?A", x, ma), false, false},
		{"an instance with a metavariable for the variable", inst("?A", mt, mt), false, false},
		{"an instance with a constant for the variable", inst("?A", a, mt), false, false},
		{"an instance with its Args the other way round", inst("?A", mt, x), false, false},
		{"an instance whose variable is not Var", inst("?A", function("x"), mt), false, false},
		{"an instance whose metavariable is not Var", inst("?A", x, function("?t")), false, false},
		{"an instance whose variable has an argument", inst("?A", api.Term{Var: true, Name: "x", Args: []api.Term{a}}, mt), false, false},
		{"an instance whose metavariable has an argument", inst("?A", x, api.Term{Var: true, Name: "?t", Args: []api.Term{a}}), false, false},
		{"an instance with a part", api.Form{Op: api.OpInst, Name: "?A", Args: []api.Term{x, mt}, Sub: []api.Form{meta("?B")}}, false, false},
		{"a wrong part", join(api.OpAnd, atom("P"), atom("p")), false, false},
		{"a wrong part deep inside", nots(20, join(api.OpAnd, join(api.OpNot), atom("P"))), false, false},
		{"the zero formula", api.Form{}, false, false},
		{"empty lists", api.Form{Op: api.OpAtom, Name: "P", Args: []api.Term{}, Sub: []api.Form{}}, true, true},
	} {
		checkRight(t, c.what, c.f, c.right, c.schema)
	}
}

// P2.1: 400 nodes and 40 levels, in which terms count.
func TestRightLimits(t *testing.T) {
	p, a := atom("P"), function("a")
	wide := atom("P", a, a, a, a) // of 5 nodes
	for _, c := range []struct {
		what string
		f    api.Form
		want bool
	}{
		{"400 nodes", not(conjunction(200, p)), true},
		{"401 nodes", conjunction(201, p), false},
		{"402 nodes", not(conjunction(201, p)), false},
		{"400 nodes with terms", nots(5, conjunction(66, wide)), true},
		{"401 nodes with terms", nots(6, conjunction(66, wide)), false},
		{"many more nodes", conjunction(5000, p), false},
		{"40 levels", nots(39, p), true},
		{"41 levels", nots(40, p), false},
		{"40 levels with terms", nots(20, atom("P", nested(18, a))), true},
		{"41 levels with terms", nots(20, atom("P", nested(19, a))), false},
		{"40 levels in a term", atom("P", a, nested(38, a)), true},
		{"41 levels in a term", atom("P", a, nested(39, a)), false},
		{"40 levels in the last part", join(api.OpAnd, p, nots(38, p)), true},
		{"41 levels in the last part", join(api.OpAnd, p, nots(39, p)), false},
		{"very many levels", nots(deep, p), false},
		{"very many levels in a term", atom("P", nested(deep, a)), false},
	} {
		checkRight(t, c.what, c.f, c.want, c.want)
	}
	checkRight(t, "a schema of 400 nodes", not(conjunction(200, meta("?A"))), false, true)
	checkRight(t, "a schema of 401 nodes", conjunction(201, meta("?A")), false, false)
	checkRight(t, "a schema of 399 nodes with instances", conjunction(100, inst("?A", variable("x"), variable("?t"))), false, true)
	checkRight(t, "a schema of 401 nodes with instances", not(not(conjunction(100, inst("?A", variable("x"), variable("?t"))))), false, false)
	checkRight(t, "a schema of 40 levels", nots(38, inst("?A", variable("x"), variable("?t"))), false, true)
	checkRight(t, "a schema of 41 levels", nots(39, inst("?A", variable("x"), variable("?t"))), false, false)
}

// P2.1: what is told of a formula with more parts than could be looked at comes soon.
func TestRightEndsSoon(t *testing.T) {
	f, term := atom("P"), function("a")
	for range 200 {
		f, term = join(api.OpAnd, f, f), function("f", term, term)
	}
	checkRight(t, "2^200 parts", f, false, false)
	checkRight(t, "a term of 2^200 parts", atom("P", term), false, false)
	if l := Parts(f); len(l) > 0 {
		t.Error("2^200 parts are told")
	}
}

// P2.5: a part of a right formula is right, and a right formula is a right schema.
func TestPartsAreRight(t *testing.T) {
	n := 0
	for _, f := range append(some(300), example()) {
		if !Right(f) {
			continue
		}
		n++
		if !Schema(f) {
			t.Errorf("%s is right, but no schema", text(f))
		}
		for _, part := range Parts(f) {
			if !Right(part) {
				t.Errorf("%s, a part of %s, is not right", text(part), text(f))
			}
		}
	}
	if n < 200 {
		t.Errorf("%d formulas are right", n)
	}
}
