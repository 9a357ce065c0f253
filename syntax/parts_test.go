package syntax

import (
	"slices"
	"strings"
	"testing"

	"lyceum/api"
)

// P2.2 to P2.4: the chapter's example.
func TestExample(t *testing.T) {
	f := example()
	if !Right(f) {
		t.Error("it is not right")
	}
	if n := Nodes(f); n != 8 {
		t.Errorf("it has %d nodes", n)
	}
	if d := Depth(f); d != 5 {
		t.Errorf("it has the depth %d", d)
	}
	q := atom("Q")
	atomP := atom("P", variable("x"), function("f", function("a")))
	if got, want := texts(Parts(f)), texts([]api.Form{f, join(api.OpAnd, atomP, not(q)), atomP, not(q), q}); got != want {
		t.Errorf("its parts are %s, not %s", got, want)
	}
	if got, e := At(f, []int{0, 1, 0}); e != api.OK || !Same(got, q) {
		t.Errorf("at 0 1 0: %s, %d", text(got), e)
	}
	if got := Predicates(f); !slices.Equal(got, []Symbol{{"P", 2}, {"Q", 0}}) {
		t.Errorf("its predicates are %v", got)
	}
	if got := Functions(f); !slices.Equal(got, []Symbol{{"a", 0}, {"f", 1}}) {
		t.Errorf("its functions are %v", got)
	}
}

// P2.2: nodes, depths and operators of formulas, right or not.
func TestSizes(t *testing.T) {
	p, a, x := atom("P"), function("a"), variable("x")
	for i, c := range []struct {
		f            api.Form
		nodes, depth int
		ops          uint32
	}{
		{p, 1, 1, 1 << 1},
		{join(api.OpFalse), 1, 1, 1 << 2},
		{not(p), 2, 2, 1<<1 | 1<<3},
		{atom("P", x), 2, 2, 1 << 1},
		{atom("P", x, function("f", a, a), x), 6, 3, 1 << 1},
		{join(api.OpAnd, not(not(p)), p), 5, 4, 1<<1 | 1<<3 | 1<<4},
		{join(api.OpAnd, p, not(not(p))), 5, 4, 1<<1 | 1<<3 | 1<<4},
		{join(api.OpIff, atom("P", nested(3, a)), not(p)), 8, 6, 1<<1 | 1<<3 | 1<<7},
		{bind(api.OpAll, "x", join(api.OpUntil, p, join(api.OpBox, p))), 5, 4, 1<<1 | 1<<8 | 1<<10 | 1<<14},
		{meta("?A"), 1, 1, 1 << 15},
		{inst("?A", x, variable("?t")), 3, 2, 1 << 16},
		{api.Form{}, 1, 1, 1},
		{join(31, p), 2, 2, 1<<1 | 1<<31},
		{join(32, p), 2, 2, 1 << 1},
		{join(33, join(64, join(65, p))), 4, 4, 1 << 1},
		{join(255), 1, 1, 0},
		{api.Form{Op: api.OpNot, Name: "x", Args: []api.Term{nested(4, a)}, Sub: []api.Form{p, p}}, 8, 6, 1<<1 | 1<<3},
		{atom("P", api.Term{Var: true, Name: "x", Args: []api.Term{a, a}}), 4, 3, 1 << 1},
		{nots(deep, p), deep + 1, deep + 1, 1<<1 | 1<<3},
		{atom("P", nested(deep, a)), deep + 2, deep + 2, 1 << 1},
		{conjunction(1<<12, p), 1<<13 - 1, 13, 1<<1 | 1<<4},
	} {
		if n, d, m := Nodes(c.f), Depth(c.f), Ops(c.f); n != c.nodes || d != c.depth || m != c.ops {
			t.Errorf("formula %d: %d nodes, depth %d, operators %b, not %d, %d, %b", i, n, d, m, c.nodes, c.depth, c.ops)
		}
	}
}

// P2.3: parts are in order, each one where it is first.
func TestParts(t *testing.T) {
	p, q := atom("P"), atom("Q")
	twice := join(api.OpImp, not(q), join(api.OpOr, q, not(q)))
	swapped := join(api.OpOr, join(api.OpAnd, q, p), join(api.OpAnd, p, q))
	alike := join(99, atom("P", variable("x")), atom("P", function("x")), p)
	for _, c := range [][]api.Form{ // the first part of a formula is itself
		{p},
		{{}},
		{atom("P", variable("x"))},
		{join(api.OpAnd, p, p), p},
		{twice, not(q), q, join(api.OpOr, q, not(q))},
		{swapped, join(api.OpAnd, q, p), q, p, join(api.OpAnd, p, q)},
		{alike, atom("P", variable("x")), atom("P", function("x")), p},
	} {
		if got := texts(Parts(c[0])); got != texts(c) {
			t.Errorf("the parts of %s are %s, not %s", text(c[0]), got, texts(c))
		}
	}
}

// P2.3: in formulas of all forms, the parts are what is at the places, without what is there before.
func TestPartsAndPlaces(t *testing.T) {
	for _, f := range some(300) {
		var want []string
		for _, place := range places(f) {
			part, e := At(f, place)
			if e != api.OK {
				t.Fatalf("%s has nothing at %v: %d", text(f), place, e)
			}
			if s := text(part); !slices.Contains(want, s) {
				want = append(want, s)
			}
		}
		if got := texts(Parts(f)); got != strings.Join(want, " ") {
			t.Fatalf("the parts of %s are %s, not %s", text(f), got, strings.Join(want, " "))
		}
	}
}

// P2.3: a formula with more than 1000 nodes, terms among them, has no parts that are told.
func TestPartsLimit(t *testing.T) {
	p, a := atom("P"), function("a")
	for _, c := range []struct {
		what  string
		f     api.Form
		parts int
	}{
		{"1000 nodes below each other", nots(999, p), 1000},
		{"1001 nodes below each other", nots(1000, p), 0},
		{"1000 nodes beside each other", not(conjunction(500, p)), 16},
		{"1001 nodes beside each other", conjunction(501, p), 0},
		{"1000 nodes in a term", atom("P", nested(998, a)), 1},
		{"1001 nodes in a term", atom("P", nested(999, a)), 0},
		{"1000 nodes in terms and parts", nots(500, atom("P", nested(498, a))), 501},
		{"1001 nodes in terms and parts", nots(500, atom("P", nested(499, a))), 0},
		{"1000 nodes in a list", join(99, slices.Repeat([]api.Form{p}, 999)...), 2},
		{"1001 nodes in a list", join(99, slices.Repeat([]api.Form{p}, 1000)...), 0},
		{"many nodes in a list", join(99, slices.Repeat([]api.Form{p}, 1<<20)...), 0},
		{"very many nodes", nots(deep, p), 0},
	} {
		if got := len(Parts(c.f)); got != c.parts {
			t.Errorf("%s: %d parts, not %d", c.what, got, c.parts)
		}
	}
}

// P2.4: predicates and functions, without duplicates and in order.
func TestSymbols(t *testing.T) {
	a, x := function("a"), variable("x")
	odd := api.Form{Op: api.OpNot, Name: "N", Args: []api.Term{function("h", a)}, Sub: []api.Form{atom("P")}}
	for _, c := range []struct {
		f            api.Form
		preds, funcs []Symbol
	}{
		{api.Form{}, nil, nil},
		{join(api.OpFalse), nil, nil},
		{meta("?A"), nil, nil},
		{atom("P"), []Symbol{{"P", 0}}, nil},
		{atom("P", x, a, x), []Symbol{{"P", 3}}, []Symbol{{"a", 0}}},
		{join(api.OpAnd, atom("Q", x), join(api.OpOr, atom("P"), atom("Q"))), []Symbol{{"P", 0}, {"Q", 0}, {"Q", 1}}, nil},
		{join(api.OpAnd, atom("Q", a), atom("Q", function("a", function("a")))), []Symbol{{"Q", 1}}, []Symbol{{"a", 0}, {"a", 1}}},
		{join(api.OpAnd, atom("P10"), join(api.OpIff, atom("P2"), join(api.OpIff, atom("P1"), atom("p")))), []Symbol{{"P1", 0}, {"P10", 0}, {"P2", 0}, {"p", 0}}, nil},
		{bind(api.OpAll, "x", atom("P", function("g", function("f", x), function("f", x, x), function("f")))), []Symbol{{"P", 1}}, []Symbol{{"f", 0}, {"f", 1}, {"f", 2}, {"g", 3}}},
		{odd, []Symbol{{"P", 0}}, []Symbol{{"a", 0}, {"h", 1}}}, // all terms count, but no Name of another Op
		{inst("?A", x, variable("?t")), nil, nil}, // both are Var
		{atom("P", api.Term{Var: true, Name: "x", Args: []api.Term{a, function("")}}), []Symbol{{"P", 1}}, []Symbol{{"", 0}, {"a", 0}}}, // what is in a variable, too
		{api.Form{Op: api.OpAtom, Sub: []api.Form{atom("P")}}, []Symbol{{"", 0}, {"P", 0}}, nil},
	} {
		if got := Predicates(c.f); !slices.Equal(got, c.preds) {
			t.Errorf("the predicates of %s are %v, not %v", text(c.f), got, c.preds)
		}
		if got := Functions(c.f); !slices.Equal(got, c.funcs) {
			t.Errorf("the functions of %s are %v, not %v", text(c.f), got, c.funcs)
		}
	}
	if got := Functions(nots(deep, atom("P", nested(deep, a)))); !slices.Equal(got, []Symbol{{"a", 0}, {"f", 1}}) {
		t.Errorf("the functions of a formula of many levels are %v", got)
	}
	if got := Predicates(nots(deep, atom("P"))); !slices.Equal(got, []Symbol{{"P", 0}}) {
		t.Errorf("the predicates of a formula of many levels are %v", got)
	}
}

// P2.1: the limits that others read.
func TestConstants(t *testing.T) {
	if MaxArgs != 4 || MaxParts != 1000 {
		t.Error(MaxArgs, MaxParts)
	}
}

// P2.2 to P2.4: no call changes its formula, and no two parts share memory with it or with each other.
func TestPartsAreCopies(t *testing.T) {
	for _, f := range append(some(100), example()) {
		before := text(f)
		n, d, m, preds, funcs := Nodes(f), Depth(f), Ops(f), Predicates(f), Functions(f)
		l := Parts(f)
		var want []string
		for _, part := range l {
			want = append(want, text(part))
		}
		for i, part := range l {
			if text(part) != want[i] {
				t.Fatalf("a part of %s shares memory with an earlier one", before)
			}
			spoil(part)
		}
		if text(f) != before || Nodes(f) != n || Depth(f) != d || Ops(f) != m || !slices.Equal(Predicates(f), preds) || !slices.Equal(Functions(f), funcs) {
			t.Fatalf("%s became %s", before, text(f))
		}
	}
}
