package format

import (
	"slices"
	"strings"
	"testing"

	"lyceum/api"
	"lyceum/syntax"
)

// checkTexts tests all texts of a schema, by itself and in a list.
func checkTexts(t *testing.T, f api.Form, text, full, prefix string) {
	t.Helper()
	for _, c := range []struct {
		name string
		call func(f api.Form) (string, api.Errno)
		want string
	}{{"Form", Form, text}, {"Full", Full, full}, {"Prefix", Prefix, prefix}} {
		if s, e := c.call(f); s != c.want || e != api.OK {
			t.Errorf("%s: %.300q, %d, not %.300q", c.name, s, e, c.want)
		}
	}
	checkForms(t, []api.Form{f}, text, api.OK)
	checkForms(t, []api.Form{p, f, f}, "P, "+text+", "+text, api.OK)
}

// checkForms tests what Forms returns.
func checkForms(t *testing.T, l []api.Form, want string, e api.Errno) {
	t.Helper()
	if s, err := Forms(l); s != want || err != e {
		t.Errorf("Forms: %.300q, %d, not %.300q, %d", s, err, want, e)
	}
}

// checkTerm tests what Term returns.
func checkTerm(t *testing.T, x api.Term, want string, e api.Errno) {
	t.Helper()
	if s, err := Term(x); s != want || err != e {
		t.Errorf("Term: %.300q, %d, not %.300q, %d", s, err, want, e)
	}
}

// checkNotRight tests that there are no texts, wherever the formula is in a list.
func checkNotRight(t *testing.T, f api.Form) {
	t.Helper()
	for _, call := range []func(f api.Form) (string, api.Errno){Form, Full, Prefix} {
		if s, e := call(f); s != "" || e != api.ErrArg {
			t.Errorf("%.300q, %d", s, e)
		}
	}
	for _, l := range [][]api.Form{{f}, {p, f}, {f, p}, {p, f, p}, {f, f}} {
		checkForms(t, l, "", api.ErrArg)
	}
}

// P6.1: the chapter's examples.
func TestExamples(t *testing.T) {
	s := atom("S")
	checkTexts(t, two(api.OpAnd, two(api.OpAnd, p, q), r), "P & Q & R", "(P & Q) & R", "& & P Q R")
	checkTexts(t, two(api.OpAnd, p, two(api.OpAnd, q, r)), "P & (Q & R)", "P & (Q & R)", "& P & Q R")
	checkTexts(t, two(api.OpImp, p, two(api.OpImp, q, one(api.OpNot, two(api.OpOr, r, s)))), "P -> Q -> ~(R | S)", "P -> (Q -> ~(R | S))", "-> P -> Q ~ | R S")
	checkTexts(t, one(api.OpAll, two(api.OpImp, atom("P", variable("x"), function("f", function("a"))), q)), "all x (P(x, f(a)) -> Q)", "all x (P(x, f(a)) -> Q)", "all x -> P(x,f(a)) Q")
	checkTexts(t, two(api.OpUntil, two(api.OpUntil, p, q), r), "(P until Q) until R", "(P until Q) until R", "until until P Q R")
	checkTexts(t, two(api.OpIff, one(api.OpNext, one(api.OpBox, inst("?A", "?t", "x"))), api.Form{Op: api.OpFalse}), "next []?A[?t/x] <-> false", "next []?A[?t/x] <-> false", "<-> next [] ?A[?t/x] false")
}

// P6.1: formulas without parts.
func TestBasics(t *testing.T) {
	x, a := variable("x"), function("a")
	for _, c := range []struct {
		f            api.Form
		text, prefix string
	}{
		{p, "P", "P"},
		{atom("Even2"), "Even2", "Even2"},
		{atom("P", x), "P(x)", "P(x)"},
		{atom("P", a, x), "P(a, x)", "P(a,x)"},
		{atom("P", a, x, a, x), "P(a, x, a, x)", "P(a,x,a,x)"},
		{atom("P", function("f", x, function("g", a, a)), function("next1")), "P(f(x, g(a, a)), next1)", "P(f(x,g(a,a)),next1)"},
		{atom("P", variable("?t"), function("f", variable("?t1"))), "P(?t, f(?t1))", "P(?t,f(?t1))"},
		{api.Form{Op: api.OpFalse}, "false", "false"},
		{meta("?A"), "?A", "?A"},
		{meta("?All12"), "?All12", "?All12"},
		{inst("?A", "?t", "x"), "?A[?t/x]", "?A[?t/x]"},
		{inst("?B1", "?a2", "u0"), "?B1[?a2/u0]", "?B1[?a2/u0]"},
	} {
		checkTexts(t, c.f, c.text, c.text, c.prefix)
	}
}

// P6.1: how each operator of one part is written, ahead of what needs brackets and what needs none.
func TestUnaries(t *testing.T) {
	for op, sign := range map[uint8]string{api.OpNot: "~", api.OpBox: "[]", api.OpDia: "<>", api.OpNext: "next ", api.OpAlways: "always ", api.OpAll: "all x ", api.OpSome: "some x "} {
		word := strings.TrimSpace(sign)
		for _, f := range basics() {
			s, _ := Form(f)
			prefix, _ := Prefix(f)
			checkTexts(t, one(op, f), sign+s, sign+s, word+" "+prefix)
			checkTexts(t, one(op, one(api.OpSome, one(op, f))), sign+"some x "+sign+s, sign+"some x "+sign+s, word+" some x "+word+" "+prefix)
		}
		for inner, between := range map[uint8]string{api.OpAnd: "&", api.OpOr: "|", api.OpImp: "->", api.OpIff: "<->", api.OpUntil: "until"} {
			s := sign + "(P " + between + " Q)"
			checkTexts(t, one(op, two(inner, p, q)), s, s, word+" "+between+" P Q")
			checkTexts(t, two(inner, one(op, p), one(op, q)), sign+"P "+between+" "+sign+"Q", sign+"P "+between+" "+sign+"Q", between+" "+word+" P "+word+" Q")
		}
	}
	checkTexts(t, bind(api.OpAll, "u10", bind(api.OpSome, "z", p)), "all u10 some z P", "all u10 some z P", "all u10 some z P")
}

// P6.1: which of two operators of two parts needs brackets within the other one, on the left and on the right. The rows are for the outer one, the columns for the inner one, from <-> to &.
func TestStrengths(t *testing.T) {
	signs := []string{"<->", "->", "until", "|", "&"}
	left := []string{"nnnnn", "yynnn", "yyynn", "yyynn", "yyyyn"}
	right := []string{"ynnnn", "ynnnn", "yynnn", "yyyyn", "yyyyy"}
	for i, outer := range binaries {
		for k, inner := range binaries {
			in := "P " + signs[k] + " Q"
			full, text := "("+in+") "+signs[i]+" R", in+" "+signs[i]+" R"
			if left[i][k] == 'y' {
				text = full
			}
			checkTexts(t, two(outer, two(inner, p, q), r), text, full, signs[i]+" "+signs[k]+" P Q R")
			full, text = "R "+signs[i]+" ("+in+")", "R "+signs[i]+" "+in
			if right[i][k] == 'y' {
				text = full
			}
			checkTexts(t, two(outer, r, two(inner, p, q)), text, full, signs[i]+" R "+signs[k]+" P Q")
		}
	}
}

// notRight are schemas that are not right.
func notRight() []api.Form {
	x, a, t := variable("x"), function("a"), variable("?t")
	with := func(f api.Form, change func(f *api.Form)) api.Form {
		f = syntax.Copy(f)
		change(&f)
		return f
	}
	l := []api.Form{
		{}, {Op: 17}, {Op: 255}, {Name: "P"}, {Op: 17, Name: "P"},
		atom(""), atom("p"), atom("x"), atom("?A"), atom("P_"), atom("P Q"), atom("P\x00"), atom("\xff"), atom("all"), atom("P1234567890123456"),
		atom("P", a, a, a, a, a), atom("P", function("")), atom("P", function("x")), atom("P", variable("a")), atom("P", function("P")), atom("P", variable("?A")), atom("P", function("?t")), atom("P", variable("")),
		atom("P", api.Term{Var: true, Name: "x", Args: []api.Term{a}}), atom("P", api.Term{Var: true, Name: "?t", Args: []api.Term{a}}), atom("P", function("f", a, a, a, a, a)), atom("P", function("f", function("until"))),
		meta("A"), meta("?t"), meta("?"), meta(""), meta("?next"),
		inst("A", "?t", "x"), inst("?t", "?t", "x"), inst("?A", "t", "x"), inst("?A", "?A", "x"), inst("?A", "?t", "a"), inst("?A", "x", "?t"), inst("", "?t", "x"),
		{Op: api.OpInst, Name: "?A"}, {Op: api.OpInst, Name: "?A", Args: []api.Term{x}}, {Op: api.OpInst, Name: "?A", Args: []api.Term{t, x}}, {Op: api.OpInst, Name: "?A", Args: []api.Term{x, t, x}}, {Op: api.OpInst, Name: "?A", Args: []api.Term{x, function("?t")}},
		bind(api.OpAll, "", p), bind(api.OpSome, "a", p), bind(api.OpAll, "?t", p), bind(api.OpAll, "P", p), bind(api.OpAll, "all", p),
	}
	for _, f := range append(basics(), above(basics()[:1], basics()[:1])...) {
		more := func(f *api.Form) { f.Sub = append(f.Sub, p) }
		fewer := func(f *api.Form) { f.Sub = f.Sub[:max(len(f.Sub)-1, 0)] }
		named := func(f *api.Form) { f.Name += "P" }
		l = append(l, with(f, more), with(with(f, more), more), with(with(with(f, more), more), more))
		if len(f.Sub) > 0 {
			l = append(l, with(f, fewer), with(f, named), with(f, func(f *api.Form) { f.Args = []api.Term{x} }))
		}
	}
	return append(l, with(api.Form{Op: api.OpFalse}, func(f *api.Form) { f.Name = "false" }), with(api.Form{Op: api.OpFalse}, func(f *api.Form) { f.Args = []api.Term{a} }), with(meta("?A"), func(f *api.Form) { f.Args = []api.Term{x, t} }))
}

// P6.1, P6.2: there is no text of what is not right, nor of what it is a part of.
func TestNotRight(t *testing.T) {
	for _, f := range notRight() {
		if syntax.Schema(f) {
			continue // one with a part more is right if the operator asks for two
		}
		checkNotRight(t, f)
		checkNotRight(t, one(api.OpBox, f))
		checkNotRight(t, two(api.OpImp, f, p))
		checkNotRight(t, two(api.OpUntil, p, one(api.OpAll, f)))
	}
}

// P6.1, P6.2: schemas that are just within the limits of layer 2, and some that are not.
func TestLimits(t *testing.T) {
	s := strings.Repeat("~", 39) + "P"
	checkTexts(t, nots(39, p), s, s, strings.Repeat("~ ", 39)+"P")
	checkNotRight(t, nots(40, p))
	checkNotRight(t, nots(1<<16-1, p))
	text := strings.Repeat("P & ", 39) + "P"
	chain := p
	for range 39 {
		chain = two(api.OpAnd, chain, p)
	}
	checkTexts(t, chain, text, strings.Repeat("(", 38)+"P"+strings.Repeat(" & P)", 38)+" & P", strings.Repeat("& ", 39)+strings.Repeat("P ", 39)+"P")
	checkNotRight(t, two(api.OpAnd, chain, p))
	most := one(api.OpNot, conjunction(200))
	checkModel400(t, most)
	checkNotRight(t, one(api.OpNot, most))
	checkNotRight(t, conjunction(5000))
	deep := atom("P", nested(38, function("a")))
	terms := "P(" + strings.Repeat("f(", 38) + "a" + strings.Repeat(")", 39)
	checkTexts(t, deep, terms, terms, terms)
	checkNotRight(t, atom("P", nested(39, function("a"))))
	checkNotRight(t, atom("P", nested(1<<16-2, function("a"))))
	long := strings.Repeat("P", 16)
	checkTexts(t, atom(long, function(strings.Repeat("a", 16)), variable("x"+strings.Repeat("1", 15))), long+"("+strings.Repeat("a", 16)+", x"+strings.Repeat("1", 15)+")", long+"("+strings.Repeat("a", 16)+", x"+strings.Repeat("1", 15)+")", long+"("+strings.Repeat("a", 16)+",x"+strings.Repeat("1", 15)+")")
}

// checkModel400 tests the texts of a schema of 400 nodes by how long they are, and by reading them.
func checkModel400(t *testing.T, f api.Form) {
	t.Helper()
	s, e := Form(f)
	full, eFull := Full(f)
	prefix, ePrefix := Prefix(f)
	if syntax.Nodes(f) != 400 || e != api.OK || eFull != api.OK || ePrefix != api.OK {
		t.Errorf("%d nodes: %d, %d, %d", syntax.Nodes(f), e, eFull, ePrefix)
	}
	if !means(s, f) || !means(full, f) || len(full) != 1+200+199*3+2*199 || len(prefix) != 400+399 {
		t.Errorf("%q, %q, %q", s, full, prefix)
	}
}

// P6.1: terms, with metavariables.
func TestTerm(t *testing.T) {
	x, a := variable("x"), function("a")
	for _, c := range []struct {
		t    api.Term
		want string
	}{
		{x, "x"},
		{variable("u10"), "u10"},
		{variable("?t"), "?t"},
		{variable("?a1"), "?a1"},
		{variable("?x1"), ""}, // no metavariable, as x1 is no function
		{a, "a"},
		{function("next1"), "next1"},
		{function("f", x), "f(x)"},
		{function("f", a, x, variable("?t"), a), "f(a, x, ?t, a)"},
		{function("f", function("g", a, function("h", x)), x), "f(g(a, h(x)), x)"},
	} {
		e := api.OK
		if c.want == "" {
			e = api.ErrArg
		}
		checkTerm(t, c.t, c.want, e)
		checkTerm(t, nested(3, c.t), map[bool]string{true: "f(f(f(" + c.want + ")))"}[e == api.OK], e)
	}
	long := "t" + strings.Repeat("Z", 15)
	checkTerm(t, function(long), long, api.OK)
	checkTerm(t, variable("?"+long[:15]), "?"+long[:15], api.OK)
	checkTerm(t, variable("?"+long), "", api.ErrArg)
	checkTerm(t, function(long+"Z"), "", api.ErrArg)
}

// P6.1: terms that are not right, by themselves and in others.
func TestTermNotRight(t *testing.T) {
	a := function("a")
	for _, x := range []api.Term{
		{}, {Var: true}, function("x"), function("P"), function("?t"), function("false"), function("a b"), variable("a"), variable("P"), variable("?A"), variable("?"), variable("?1"), variable("?all"), variable("xy"), variable("??t"),
		{Var: true, Name: "x", Args: []api.Term{a}}, {Var: true, Name: "?t", Args: []api.Term{a}}, function("f", a, a, a, a, a),
	} {
		checkTerm(t, x, "", api.ErrArg)
		checkTerm(t, function("f", x), "", api.ErrArg)
		checkTerm(t, function("f", a, a, function("g", a, x)), "", api.ErrArg)
	}
}

// P6.1: terms of any size, beyond the limits of formulas.
func TestLargeTerms(t *testing.T) {
	for _, n := range []int{39, 40, 400, 1<<16 - 1} {
		checkTerm(t, nested(n, variable("?t")), strings.Repeat("f(", n)+"?t"+strings.Repeat(")", n), api.OK)
		checkTerm(t, nested(n, function("A")), "", api.ErrArg)
	}
	x, s := variable("x"), "x"
	for range 8 {
		x, s = function("f", x, x, x, x), "f("+s+", "+s+", "+s+", "+s+")"
	}
	checkTerm(t, x, s, api.OK)
}

// P6.2: lists of formulas.
func TestForms(t *testing.T) {
	imp := two(api.OpImp, p, q)
	checkForms(t, nil, "", api.OK)
	checkForms(t, []api.Form{}, "", api.OK)
	checkForms(t, []api.Form{p}, "P", api.OK)
	checkForms(t, []api.Form{p, p}, "P, P", api.OK)
	checkForms(t, []api.Form{imp, two(api.OpIff, imp, imp), atom("P", function("f", variable("x"), variable("y")))}, "P -> Q, P -> Q <-> P -> Q, P(f(x, y))", api.OK)
	checkForms(t, []api.Form{meta("?A"), inst("?A", "?t", "x")}, "?A, ?A[?t/x]", api.OK)
	var l []api.Form
	for range 1000 {
		l = append(l, conjunction(200))
	}
	s, _ := Form(conjunction(200))
	checkForms(t, l, strings.Repeat(s+", ", 999)+s, api.OK)
	for i := range 3 {
		list := []api.Form{p, imp, q}
		list[i] = one(api.OpNot, atom("p"))
		checkForms(t, list, "", api.ErrArg)
	}
	checkForms(t, append(l, api.Form{}), "", api.ErrArg)
	checkForms(t, []api.Form{nots(40, p)}, "", api.ErrArg)
}

// P6.1: the words of a prefix text come one by one, and no further one when no more are asked for.
func TestWords(t *testing.T) {
	f := two(api.OpUntil, bind(api.OpAll, "y", one(api.OpNot, p)), atom("Q", variable("x"), function("a")))
	want := []string{"until", "all", "y", "~", "P", "Q(x,a)"}
	for n := range want {
		var got []string
		for word := range words(f) {
			if got = append(got, word); len(got) > n {
				break
			}
		}
		if !slices.Equal(got, want[:n+1]) {
			t.Errorf("%q", got)
		}
	}
}

// R3: no argument is changed.
func TestArgumentsStay(t *testing.T) {
	d := fixed(6)
	for range 300 {
		f := d.form(5)
		l := append(make([]api.Form, 0, 3), f, p)
		room := l[:3]
		room[2] = q
		before := syntax.Copy(f)
		Form(f)
		Full(f)
		Prefix(f)
		Forms(l)
		if !syntax.Same(f, before) || !syntax.Same(l[0], f) || !syntax.Same(l[1], p) || !syntax.Same(room[2], q) {
			t.Errorf("an argument is changed")
		}
	}
}
