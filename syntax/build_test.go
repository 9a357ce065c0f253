package syntax

import (
	"math/rand/v2"
	"strconv"
	"strings"

	"lyceum/api"
)

// deep is how many levels of nesting all functions must stand.
const deep = 1 << 16

func variable(name string) api.Term { return api.Term{Var: true, Name: name} }

func function(name string, args ...api.Term) api.Term { return api.Term{Name: name, Args: args} }

func atom(name string, args ...api.Term) api.Form {
	return api.Form{Op: api.OpAtom, Name: name, Args: args}
}

func join(op uint8, sub ...api.Form) api.Form { return api.Form{Op: op, Sub: sub} }

func not(f api.Form) api.Form { return join(api.OpNot, f) }

func bind(op uint8, name string, sub api.Form) api.Form {
	return api.Form{Op: op, Name: name, Sub: []api.Form{sub}}
}

func meta(name string) api.Form { return api.Form{Op: api.OpMeta, Name: name} }

func inst(name string, args ...api.Term) api.Form {
	return api.Form{Op: api.OpInst, Name: name, Args: args}
}

// nots returns a formula below n negations.
func nots(n int, f api.Form) api.Form {
	for range n {
		f = not(f)
	}
	return f
}

// nested returns a term in n functions.
func nested(n int, t api.Term) api.Term {
	for range n {
		t = function("f", t)
	}
	return t
}

// conjunction returns a formula with n atoms, as flat as can be; it has 2 * n - 1 nodes.
func conjunction(n int, f api.Form) api.Form {
	if n == 1 {
		return f
	}
	return join(api.OpAnd, conjunction(n/2, f), conjunction(n-n/2, f))
}

// example is the formula of the chapter's examples: some x (P(x, f(a)) & ~Q).
func example() api.Form {
	return bind(api.OpSome, "x", join(api.OpAnd, atom("P", variable("x"), function("f", function("a"))), not(atom("Q"))))
}

// text shows all fields of a formula, so that different formulas have different texts.
func text(f api.Form) string {
	return strconv.Itoa(int(f.Op)) + strconv.Quote(f.Name) + termTexts(f.Args) + "[" + texts(f.Sub) + "]"
}

func texts(l []api.Form) string {
	var all []string
	for _, f := range l {
		all = append(all, text(f))
	}
	return strings.Join(all, " ")
}

func termText(t api.Term) string {
	return strconv.FormatBool(t.Var) + strconv.Quote(t.Name) + termTexts(t.Args)
}

func termTexts(l []api.Term) string {
	var all []string
	for _, t := range l {
		all = append(all, termText(t))
	}
	return "(" + strings.Join(all, " ") + ")"
}

// spoil overwrites all memory that a formula has.
func spoil(f api.Form) {
	spoilTerms(f.Args)
	for i, part := range f.Sub {
		spoil(part)
		f.Sub[i] = api.Form{Op: 99, Name: "spoilt"}
	}
}

func spoilTerms(l []api.Term) {
	for i, t := range l {
		spoilTerms(t.Args)
		l[i] = api.Term{Name: "spoilt"}
	}
}

// roomy returns a formula equal to f whose lists have spare capacity, and a function that tells whether that still is as it was.
func roomy(f api.Form) (api.Form, func() bool) {
	sub, args := append(make([]api.Form, 0, len(f.Sub)+2), f.Sub...), append(make([]api.Term, 0, len(f.Args)+2), f.Args...)
	subRoom, argRoom := sub[len(sub):cap(sub)], args[len(args):cap(args)]
	for i := range subRoom {
		subRoom[i] = atom("Room")
	}
	for i := range argRoom {
		argRoom[i] = function("room")
	}
	subBefore, argsBefore := texts(sub[:cap(sub)]), termTexts(args[:cap(args)])
	f.Sub, f.Args = sub, args
	return f, func() bool { return texts(sub[:cap(sub)]) == subBefore && termTexts(args[:cap(args)]) == argsBefore }
}

// pick returns one of some values.
func pick[T any](r *rand.Rand, l ...T) T { return l[r.IntN(len(l))] }

// anyTerm returns some term, right or not, of few names, so that equal ones come often.
func anyTerm(r *rand.Rand, levels int) api.Term {
	t := api.Term{Var: r.IntN(3) == 0, Name: pick(r, "a", "b", "x", "")}
	for levels > 0 && r.IntN(2) == 0 && len(t.Args) < 3 {
		t.Args = append(t.Args, anyTerm(r, levels-1))
	}
	return t
}

// anyForm returns some formula, right or not, of few operators and names.
func anyForm(r *rand.Rand, levels int) api.Form {
	f := api.Form{Op: pick(r, api.OpAtom, api.OpAnd, api.OpAll, 200), Name: pick(r, "P", "x", "")}
	for levels > 0 && r.IntN(3) == 0 && len(f.Args) < 3 {
		f.Args = append(f.Args, anyTerm(r, levels-1))
	}
	for levels > 0 && r.IntN(3) > 0 && len(f.Sub) < 3 {
		f.Sub = append(f.Sub, anyForm(r, levels-1))
	}
	return f
}

// rightTermAt returns some right term.
func rightTermAt(r *rand.Rand, levels int) api.Term {
	if r.IntN(2) == 0 {
		return variable(pick(r, "u", "x", "z9"))
	}
	t := function(pick(r, "a", "f", "t1"))
	for levels > 0 && r.IntN(2) == 0 && len(t.Args) < MaxArgs {
		t.Args = append(t.Args, rightTermAt(r, levels-1))
	}
	return t
}

// rightFormAt returns some right formula.
func rightFormAt(r *rand.Rand, levels int) api.Form {
	if levels == 0 || r.IntN(6) == 0 {
		f := atom(pick(r, "P", "Q", "R7"))
		for r.IntN(2) == 0 && len(f.Args) < MaxArgs {
			f.Args = append(f.Args, rightTermAt(r, 2))
		}
		return pick(r, f, f, f, join(api.OpFalse))
	}
	switch op := uint8(r.IntN(12)) + api.OpNot; op {
	case api.OpAnd, api.OpOr, api.OpImp, api.OpIff, api.OpUntil:
		return join(op, rightFormAt(r, levels-1), rightFormAt(r, levels-1))
	case api.OpAll, api.OpSome:
		return bind(op, pick(r, "u", "x", "z9"), rightFormAt(r, levels-1))
	default:
		return join(op, rightFormAt(r, levels-1))
	}
}

// some returns formulas that are the same in each run: right ones, and others.
func some(n int) []api.Form {
	r := rand.New(rand.NewPCG(2, uint64(n)))
	var l []api.Form
	for range n {
		l = append(l, rightFormAt(r, 4), anyForm(r, 3))
	}
	return l
}

// places returns the places of all parts, in the order of the parts.
func places(f api.Form) [][]int {
	l := [][]int{nil}
	for i, part := range f.Sub {
		for _, place := range places(part) {
			l = append(l, append([]int{i}, place...))
		}
	}
	return l
}
