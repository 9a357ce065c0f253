package format

import (
	"math/rand/v2"

	"lyceum/api"
)

// unaries and binaries are the operators of one and of two parts; binaries begin with the weakest one.
var (
	unaries  = []uint8{api.OpNot, api.OpAll, api.OpSome, api.OpBox, api.OpDia, api.OpNext, api.OpAlways}
	binaries = []uint8{api.OpIff, api.OpImp, api.OpUntil, api.OpOr, api.OpAnd}
)

// written has how the operators are written ahead of a part, or between two.
var written = map[uint8]string{
	api.OpNot: "~", api.OpBox: "[]", api.OpDia: "<>", api.OpNext: "next ", api.OpAlways: "always ", api.OpAll: "all ", api.OpSome: "some ",
	api.OpAnd: " & ", api.OpOr: " | ", api.OpUntil: " until ", api.OpImp: " -> ", api.OpIff: " <-> ",
}

// p, q and r are formulas without parts.
var p, q, r = atom("P"), atom("Q"), atom("R")

// atom returns a formula without parts.
func atom(name string, args ...api.Term) api.Form {
	return api.Form{Op: api.OpAtom, Name: name, Args: args}
}

// one returns a formula of one part; a quantifier has the variable x.
func one(op uint8, part api.Form) api.Form {
	f := api.Form{Op: op, Sub: []api.Form{part}}
	if op == api.OpAll || op == api.OpSome {
		f.Name = "x"
	}
	return f
}

// two returns a formula of two parts.
func two(op uint8, left, right api.Form) api.Form {
	return api.Form{Op: op, Sub: []api.Form{left, right}}
}

// bind returns a formula of a quantifier.
func bind(op uint8, name string, part api.Form) api.Form {
	return api.Form{Op: op, Name: name, Sub: []api.Form{part}}
}

// meta returns a metavariable of formulas.
func meta(name string) api.Form { return api.Form{Op: api.OpMeta, Name: name} }

// inst returns a metavariable with a term put for a variable.
func inst(name, t, x string) api.Form {
	return api.Form{Op: api.OpInst, Name: name, Args: []api.Term{variable(x), variable(t)}}
}

// variable returns a term with Var.
func variable(name string) api.Term { return api.Term{Var: true, Name: name} }

// function returns a term of a function.
func function(name string, args ...api.Term) api.Term { return api.Term{Name: name, Args: args} }

// nested returns a term in n functions.
func nested(n int, t api.Term) api.Term {
	for range n {
		t = function("f", t)
	}
	return t
}

// nots returns a formula below n negations.
func nots(n int, f api.Form) api.Form {
	for range n {
		f = one(api.OpNot, f)
	}
	return f
}

// conjunction returns a formula with n times the atom P, as flat as can be; it has 2 * n - 1 nodes.
func conjunction(n int) api.Form {
	if n == 1 {
		return p
	}
	return two(api.OpAnd, conjunction(n/2), conjunction(n-n/2))
}

// basics are schemas without parts.
func basics() []api.Form {
	x, a := variable("x"), function("a")
	return []api.Form{p, q, atom("P", x), atom("P", a), atom("P", x, a), atom("P", function("a", x)), {Op: api.OpFalse}, meta("?A"), inst("?A", "?t", "x")}
}

// above returns the schemas with one operator whose parts are out of lists.
func above(left, right []api.Form) []api.Form {
	var l []api.Form
	for _, f := range left {
		for _, op := range unaries {
			l = append(l, one(op, f))
		}
		l = append(l, bind(api.OpAll, "y1", f))
		for _, g := range right {
			for _, op := range binaries {
				l = append(l, two(op, f, g))
			}
		}
	}
	return l
}

// draws draws schemas and terms.
type draws struct{ *rand.Rand }

// fixed returns draws that are the same in each run.
func fixed(n uint64) draws { return draws{rand.New(rand.NewPCG(6, n))} }

// of draws one of some strings.
func (d draws) of(l ...string) string { return l[d.IntN(len(l))] }

// term draws a term of at most so many levels.
func (d draws) term(levels int) api.Term {
	if d.IntN(2) == 0 {
		return variable(d.of("x", "y12", "?t", "?f1"))
	}
	t := function(d.of("a", "f", "next1"))
	for range min(levels-1, d.IntN(4)) {
		t.Args = append(t.Args, d.term(levels-1))
	}
	return t
}

// form draws a schema of at most so many levels.
func (d draws) form(levels int) api.Form {
	switch n := d.IntN(10); {
	case levels > 1 && n < 5:
		return two(binaries[d.IntN(5)], d.form(levels-1), d.form(levels-1))
	case levels > 1 && n < 9:
		f := one(unaries[d.IntN(7)], d.form(levels-1))
		if f.Name != "" {
			f.Name = d.of("x", "u0")
		}
		return f
	case n%4 > 0:
		return atom(d.of("P", "Q7", "False"), d.term(3).Args...)
	}
	return basics()[d.IntN(9)]
}

// spoiled changes one field of some part of a schema.
func (d draws) spoiled(f api.Form) api.Form {
	if len(f.Sub) > 0 && d.IntN(3) > 0 {
		i := d.IntN(len(f.Sub))
		sub := append([]api.Form(nil), f.Sub...)
		sub[i] = d.spoiled(sub[i])
		f.Sub = sub
		return f
	}
	switch d.IntN(4) {
	case 0:
		f.Op = uint8(d.IntN(20))
	case 1:
		f.Name = d.of("", "x", "P", "p", "?A", "?t", "all")
	case 2:
		f.Args = append(append([]api.Term(nil), f.Args...), d.term(2))
	default:
		f.Sub = append(append([]api.Form(nil), f.Sub...), p)
	}
	return f
}
