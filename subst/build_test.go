package subst

import (
	"math/rand/v2"
	"slices"
	"strings"
	"testing"

	"lyceum/api"
	"lyceum/syntax"
)

// deep is how many levels of nesting all functions must stand.
const deep = 1 << 16

// reader reads what tests write: formulas with brackets around each one that has two parts.
type reader struct{ rest string }

// form reads a formula.
func form(s string) api.Form {
	r := &reader{s}
	return whole(r, r.form())
}

// term reads a term.
func term(s string) api.Term {
	r := &reader{s}
	return whole(r, r.term())
}

// whole returns what was read, if nothing is left behind it.
func whole[T any](r *reader, x T) T {
	if r.rest != "" {
		panic("not read: " + r.rest)
	}
	return x
}

func (r *reader) form() api.Form {
	switch {
	case r.skip("~"):
		return api.Form{Op: api.OpNot, Sub: []api.Form{r.form()}}
	case r.skip("[]"):
		return api.Form{Op: api.OpBox, Sub: []api.Form{r.form()}}
	case r.skip("all "):
		return api.Form{Op: api.OpAll, Name: r.name(), Sub: []api.Form{r.form()}}
	case r.skip("some "):
		return api.Form{Op: api.OpSome, Name: r.name(), Sub: []api.Form{r.form()}}
	case r.skip("("):
		left := r.form()
		op := r.sign()
		f := api.Form{Op: op, Sub: []api.Form{left, r.form()}}
		r.skip(")")
		return f
	}
	return api.Form{Op: api.OpAtom, Name: r.name(), Args: r.args()}
}

func (r *reader) sign() uint8 {
	for sign, op := range map[string]uint8{"&": api.OpAnd, "|": api.OpOr, "->": api.OpImp, "U": api.OpUntil} {
		if r.skip(sign) {
			return op
		}
	}
	panic("no sign: " + r.rest)
}

func (r *reader) term() api.Term {
	name := r.name()
	return api.Term{Var: syntax.Variable(name), Name: name, Args: r.args()}
}

func (r *reader) args() []api.Term {
	var l []api.Term
	if r.skip("(") {
		for ok := true; ok; ok = r.skip(",") {
			l = append(l, r.term())
		}
		r.skip(")")
	}
	return l
}

func (r *reader) name() string {
	r.skip("")
	n := len(r.rest) - len(strings.TrimLeft(r.rest, "abcdefghijklmnopqrstuvwxyzABCDEFGHIJKLMNOPQRSTUVWXYZ0123456789"))
	name := r.rest[:n]
	r.rest = r.rest[n:]
	return name
}

// skip reports whether the next thing is a token, and goes behind it.
func (r *reader) skip(token string) bool {
	rest, ok := strings.CutPrefix(strings.TrimLeft(r.rest, " "), token)
	if ok {
		r.rest = rest
	}
	return ok
}

// list reads what is put: "x: f(a); y: b".
func list(s string) []One {
	var l []One
	for _, each := range strings.Split(s, ";") {
		if name, t, ok := strings.Cut(strings.TrimSpace(each), ": "); ok {
			l = append(l, One{name, term(t)})
		}
	}
	return l
}

// nested returns a term in n functions.
func nested(n int, t api.Term) api.Term {
	for range n {
		t = api.Term{Name: "f", Args: []api.Term{t}}
	}
	return t
}

// nots returns a formula below n negations.
func nots(n int, f api.Form) api.Form {
	for range n {
		f = api.Form{Op: api.OpNot, Sub: []api.Form{f}}
	}
	return f
}

// conjunction returns a formula with n parts that are f, as flat as can be.
func conjunction(n int, f api.Form) api.Form { return joined(slices.Repeat([]api.Form{f}, n)) }

// joined returns the conjunction of some formulas, as flat as can be.
func joined(l []api.Form) api.Form {
	if len(l) == 1 {
		return l[0]
	}
	half := len(l) / 2
	return api.Form{Op: api.OpAnd, Sub: []api.Form{joined(l[:half]), joined(l[half:])}}
}

// example is the formula of the chapter's examples in which two names are changed.
const example = "all x some x1 R(x, x1, y)"

// pool has few variables, so that they are bound, free and captured often.
var pool = []string{"x", "y", "x1", "x2", "x3"}

// draws draws formulas and terms.
type draws struct{ *rand.Rand }

// fixed returns draws that are the same in each run.
func fixed(n uint64) draws { return draws{rand.New(rand.NewPCG(3, n))} }

// name draws a variable.
func (d draws) name() string { return pool[d.IntN(len(pool))] }

// term draws a right term.
func (d draws) term(levels int) api.Term {
	if levels == 0 || d.IntN(3) > 0 {
		return variable(d.name())
	}
	t := api.Term{Name: "f"}
	for range d.IntN(3) {
		t.Args = append(t.Args, d.term(levels-1))
	}
	return t
}

// form draws a right formula.
func (d draws) form(levels int) api.Form {
	if levels == 0 || d.IntN(8) == 0 {
		f := api.Form{Op: api.OpAtom, Name: []string{"P", "Q"}[d.IntN(2)]}
		for range d.IntN(4) {
			f.Args = append(f.Args, d.term(2))
		}
		return f
	}
	switch d.IntN(5) {
	case 0:
		return api.Form{Op: api.OpImp, Sub: []api.Form{d.form(levels - 1), d.form(levels - 1)}}
	case 1:
		return api.Form{Op: api.OpNot, Sub: []api.Form{d.form(levels - 1)}}
	case 2:
		return api.Form{Op: api.OpSome, Name: d.name(), Sub: []api.Form{d.form(levels - 1)}}
	}
	return api.Form{Op: api.OpAll, Name: d.name(), Sub: []api.Form{d.form(levels - 1)}}
}

// list draws what is put for some of the variables.
func (d draws) list() []One {
	var l []One
	for _, i := range d.Perm(len(pool))[:d.IntN(len(pool)+1)] {
		l = append(l, One{pool[i], d.term(2)})
	}
	return l
}

// other returns a formula with other bound names that is equal up to them; it draws names until no variable is captured.
func (d draws) other(f api.Form) api.Form {
	for {
		g := syntax.Copy(f)
		d.rename(&g, nil)
		if syntax.Same(nameless(f), nameless(g)) {
			return g
		}
	}
}

// rename draws a name for each quantifier, and puts it for what it binds; from has the old names, and the new ones behind them, of those around it.
func (d draws) rename(f *api.Form, from [][2]string) {
	for i, t := range f.Args {
		f.Args[i] = onVariables(t, func(t api.Term) api.Term {
			for _, pair := range slices.Backward(from) {
				if pair[0] == t.Name {
					return variable(pair[1])
				}
			}
			return t
		})
	}
	if f.Op == api.OpAll || f.Op == api.OpSome {
		name := d.name()
		from = append(slices.Clone(from), [2]string{f.Name, name})
		f.Name = name
	}
	for i := range f.Sub {
		d.rename(&f.Sub[i], from)
	}
}

// onVariables returns a term with something else for each of its variables.
func onVariables(t api.Term, change func(t api.Term) api.Term) api.Term {
	if t.Var {
		return change(t)
	}
	args := make([]api.Term, len(t.Args))
	for i, arg := range t.Args {
		args[i] = onVariables(arg, change)
	}
	t.Args = args
	return t
}

// nameless returns a formula in which quantifiers have no names, and each bound variable is called by the number of the quantifiers between it and its own, behind a mark. Formulas are equal up to bound names if these are equal.
func nameless(f api.Form) api.Form { return namelessIn(f, nil) }

func namelessIn(f api.Form, around []string) api.Form {
	g := api.Form{Op: f.Op, Name: f.Name}
	for _, t := range f.Args {
		g.Args = append(g.Args, onVariables(t, func(t api.Term) api.Term {
			if i := slices.Index(around, t.Name); i >= 0 {
				return variable("#" + strings.Repeat("1", i))
			}
			return t
		}))
	}
	if f.Op == api.OpAll || f.Op == api.OpSome {
		g.Name, around = "", append([]string{f.Name}, around...)
	}
	for _, part := range f.Sub {
		g.Sub = append(g.Sub, namelessIn(part, around))
	}
	return g
}

// putNameless returns a nameless formula with terms put for its free variables, which cannot be captured there.
func putNameless(f api.Form, l []One) api.Form {
	g := api.Form{Op: f.Op, Name: f.Name}
	for _, t := range f.Args {
		g.Args = append(g.Args, onVariables(t, func(t api.Term) api.Term {
			for _, o := range l {
				if o.Name == t.Name {
					return o.Term
				}
			}
			return t
		}))
	}
	for _, part := range f.Sub {
		g.Sub = append(g.Sub, putNameless(part, l))
	}
	return g
}

// memory returns the addresses of all elements of lists, their spare capacity included, that a formula has.
func memory(f api.Form) []any {
	all := termMemory(f.Args)
	for i := range f.Sub[:cap(f.Sub)] {
		all = append(all, &f.Sub[:cap(f.Sub)][i])
	}
	for _, part := range f.Sub {
		all = append(all, memory(part)...)
	}
	return all
}

// termMemory is memory for a list of terms.
func termMemory(l []api.Term) []any {
	var all []any
	for i := range l[:cap(l)] {
		all = append(all, &l[:cap(l)][i])
	}
	for _, t := range l {
		all = append(all, termMemory(t.Args)...)
	}
	return all
}

// checkOwn tests that no address is in two lists, or twice in one.
func checkOwn(t *testing.T, what string, lists ...[]any) {
	t.Helper()
	found := map[any]bool{}
	for _, address := range slices.Concat(lists...) {
		if found[address] {
			t.Errorf("%s: memory is shared", what)
		}
		found[address] = true
	}
}

// checkForm tests a result that is to be a formula, or an error and the zero formula.
func checkForm(t *testing.T, what string, got api.Form, e api.Errno, want api.Form, wantE api.Errno) {
	t.Helper()
	if e != wantE || !syntax.Same(got, want) {
		t.Errorf("%s: %.500v, %d, not %.500v, %d", what, got, e, want, wantE)
	}
}
