package subst

import (
	"iter"
	"slices"
	"strconv"
	"strings"
	"testing"

	"lyceum/api"
)

// checkNames tests a list of names; want has them with spaces between them.
func checkNames(t *testing.T, what string, got []string, want string) {
	t.Helper()
	if strings.Join(got, " ") != want || len(got) != len(strings.Fields(want)) {
		t.Errorf("%s: %q, not %s", what, got, want)
	}
}

// P3.1: the chapter's example, and other right formulas.
func TestFree(t *testing.T) {
	for _, c := range []struct{ f, free, bound string }{
		{"(some x P(x, y) & Q(x))", "x y", "x"},
		{"P", "", ""},
		{"P(a, f(b))", "", ""},
		{"P(y, x, y, x)", "x y", ""},
		{"P(f(g(x), a, h(y, z)))", "x y z", ""},
		{"all x P(x)", "", "x"},
		{"all x P(y)", "y", "x"},
		{"all x Q", "", "x"},
		{"all x some x P(x)", "", "x"},
		{"all x (some x P(x) & P(x))", "", "x"},
		{"(P(x) & all x P(x))", "x", "x"},
		{"(all x P(x) & P(x))", "x", "x"},
		{"(all x some y R(x, y) | R(x, y))", "x y", "x y"},
		{"all z some y ~all x R(x, y, z, w)", "w", "x y z"},
		{"(some x P(f(x, y)) U []all y P(f(x, y)))", "x y", "x y"},
		{"P(x10, x2, x1, z, y)", "x1 x10 x2 y z", ""},
		{"all x10 all x2 all x1 R(x1, x2, x3)", "x3", "x1 x10 x2"},
		{"all x all x1 all x01 P(x, x1, x01, x001)", "x001", "x x01 x1"},
	} {
		f := form(c.f)
		checkNames(t, "the free variables of "+c.f, Free(f), c.free)
		checkNames(t, "the bound variables of "+c.f, Bound(f), c.bound)
	}
}

// P3.1: formulas that are not right: whatever is Var is free, unless it has the name of a quantifier around its formula.
func TestFreeOfAnyForm(t *testing.T) {
	x, y, inner := variable("x"), variable("y"), form("P(x, y, z)")
	odd := api.Term{Var: true, Name: "x", Args: []api.Term{y, {Name: "z"}, {Var: true, Name: "?t"}}}
	for _, c := range []struct {
		what        string
		f           api.Form
		free, bound string
	}{
		{"the zero formula", api.Form{}, "", ""},
		{"Args of a quantifier itself", api.Form{Op: api.OpAll, Name: "x", Args: []api.Term{x, y}}, "x y", "x"},
		{"Args of a quantifier around another one", api.Form{Op: api.OpAll, Name: "y", Sub: []api.Form{{Op: api.OpSome, Name: "x", Args: []api.Term{x, y}}}}, "x", "x y"},
		{"a quantifier with three Sub", api.Form{Op: api.OpSome, Name: "x", Sub: []api.Form{inner, form("all y P(x, y)"), inner}}, "y z", "x y"},
		{"an atom with a Sub", api.Form{Op: api.OpAtom, Name: "x", Args: []api.Term{x}, Sub: []api.Form{inner}}, "x y z", ""},
		{"an operator with a name", api.Form{Op: api.OpNot, Name: "x", Sub: []api.Form{inner}}, "x y z", ""},
		{"an unknown operator", api.Form{Op: 200, Name: "x", Sub: []api.Form{inner, form("all u Q")}}, "x y z", "u"},
		{"a variable with Args", api.Form{Op: api.OpAtom, Name: "P", Args: []api.Term{odd}}, "?t x y", ""},
		{"a variable with Args in its quantifier", api.Form{Op: api.OpAll, Name: "x", Sub: []api.Form{{Op: api.OpAtom, Args: []api.Term{odd}}}}, "?t y", "x"},
		{"an instance in its quantifier", api.Form{Op: api.OpAll, Name: "x", Sub: []api.Form{{Op: api.OpInst, Name: "?A", Args: []api.Term{x, variable("?t")}}}}, "?t", "x"},
		{"a quantifier of a function", api.Form{Op: api.OpAll, Name: "a", Sub: []api.Form{form("P(a, x)")}}, "x", "a"},
		{"a quantifier of what is no name", api.Form{Op: api.OpSome, Name: "\xff", Sub: []api.Form{{Args: []api.Term{variable("\xff"), variable("A")}}}}, "A", "\xff"},
	} {
		checkNames(t, c.what+": free", Free(c.f), c.free)
		checkNames(t, c.what+": bound", Bound(c.f), c.bound)
	}
}

// P3.1: the empty name is a name like others, of what is not right.
func TestEmptyNames(t *testing.T) {
	open := api.Form{Args: []api.Term{{Var: true}}}
	closed := api.Form{Op: api.OpAll, Sub: []api.Form{open}}
	for _, c := range []struct {
		what string
		got  []string
		want int
	}{{"free in the open one", Free(open), 1}, {"free in the closed one", Free(closed), 0}, {"bound in the open one", Bound(open), 0}, {"bound in the closed one", Bound(closed), 1}, {"of the term", FreeTerm(api.Term{Var: true}), 1}} {
		if len(c.got) != c.want || c.want == 1 && c.got[0] != "" {
			t.Errorf("%s: %q", c.what, c.got)
		}
	}
}

// P3.1: terms, right or not.
func TestFreeTerm(t *testing.T) {
	for _, c := range []struct {
		term api.Term
		want string
	}{
		{term("x"), "x"},
		{term("a"), ""},
		{term("f(x, y, x)"), "x y"},
		{term("f(z, g(y, g(x10, a)), x2)"), "x10 x2 y z"},
		{api.Term{}, ""},
		{api.Term{Name: "x"}, ""},
		{variable("?t"), "?t"},
		{variable("a"), "a"},
		{api.Term{Var: true, Name: "y", Args: []api.Term{term("f(x)"), variable("?A")}}, "?A x y"},
		{nested(deep, variable("x")), "x"},
		{nested(deep, term("a")), ""},
	} {
		checkNames(t, c.term.Name, FreeTerm(c.term), c.want)
	}
}

// P3.1: many levels, with many names.
func TestFreeDeepInside(t *testing.T) {
	f := api.Form{Op: api.OpAtom, Name: "P"}
	for i := range deep {
		f.Args = append(f.Args, variable("z"+strconv.Itoa(i)))
	}
	for i := range deep {
		f = api.Form{Op: api.OpAll, Name: "z" + strconv.Itoa(i+1), Sub: []api.Form{f}}
	}
	checkNames(t, "free", Free(f), "z0")
	if l := Bound(f); len(l) != deep || !slices.IsSorted(l) {
		t.Errorf("%d bound names", len(l))
	}
}

// P3.1: the least number counts, not the least string; what is not written like these names does not matter.
func TestFresh(t *testing.T) {
	var many []string
	for i := range 5000 {
		many = append(many, "x"+strconv.Itoa(5000-i))
	}
	for _, c := range []struct {
		taken []string
		want  string
	}{
		{nil, "x1"},
		{[]string{}, "x1"},
		{[]string{"x1", "x3"}, "x2"},
		{[]string{"x3", "x1", "x1", "x2"}, "x4"},
		{[]string{"x2", "x3"}, "x1"},
		{[]string{"x", "x0", "x01", "X1", "y1", " x1", "x1 ", "1", "", "x-1", "?x1"}, "x1"},
		{[]string{"x1", "x2", "x3", "x4", "x5", "x6", "x7", "x8", "x9", "x11"}, "x10"},
		{[]string{"x1", "x10", "x2"}, "x3"},
		{many, "x5001"},
		{many[1:], "x5000"},
	} {
		before := slices.Clone(c.taken)
		if got := Fresh(c.taken); got != c.want {
			t.Errorf("Fresh of %d names is %s, not %s", len(c.taken), got, c.want)
		}
		if !slices.Equal(c.taken, before) {
			t.Errorf("Fresh changed %q to %q", before, c.taken)
		}
	}
}

// P3.1: what is yielded ends as soon as no more is wanted.
func TestRangesEnd(t *testing.T) {
	f := form("all x (all y P(x, z, y, w) & some z P(u))")
	for what, all := range map[string]iter.Seq[string]{"binders": binders(f), "free": free(f), "variables": variables(term("f(g(x), y, z)"))} {
		for most := range 5 {
			n := 0
			for range all {
				if n == most {
					break
				}
				n++
			}
			if want := min(most, 3); n != want {
				t.Errorf("%s: %d instead of %d", what, n, want)
			}
		}
	}
}
