package logic

import (
	"slices"
	"strings"
	"testing"

	"lyceum/api"
	"lyceum/rule"
	"lyceum/syntax"
)

// The rules of the chapter's tables, as it has them.
const (
	propositionalTable = `
| andI | ?A; ?B | ?A & ?B |
| andE1 | ?A & ?B | ?A |
| andE2 | ?A & ?B | ?B |
| orI1 | ?A | ?A \| ?B |
| orI2 | ?B | ?A \| ?B |
| orE | ?A \| ?B; {?A} ?C; {?B} ?C | ?C |
| impI | {?A} ?B | ?A -> ?B |
| impE | ?A -> ?B; ?A | ?B |
| notI | {?A} false | ~?A |
| notE | ?A; ~?A | false |
| falseE | false | ?A |
| iffI | {?A} ?B; {?B} ?A | ?A <-> ?B |
| iffE1 | ?A <-> ?B; ?A | ?B |
| iffE2 | ?A <-> ?B; ?B | ?A |
`
	raaTable = `
| raa | {~?A} false | ?A |
`
	quantifierTable = `
| allI | fresh ?a ?A[?a/x] | all x ?A |
| allE | all x ?A | ?A[?t/x] |
| someI | ?A[?t/x] | some x ?A |
| someE | some x ?A; fresh ?a {?A[?a/x]} ?C | ?C |
`
	modalTable = `
| boxI0 | closed ?D | []?D |
| boxI1 | []?A; closed {?A} ?D | []?D |
| boxI2 | []?A; []?B; closed {?A; ?B} ?D | []?D |
| boxI3 | []?A; []?B; []?C; closed {?A; ?B; ?C} ?D | []?D |
| diaI | ~[]~?A | <>?A |
| diaE | <>?A | ~[]~?A |
`
	boxETable = `
| boxE | []?A | ?A |
`
	box4Table = `
| box4 | []?A | [][]?A |
`
	dia5Table = `
| dia5 | <>?A | []<>?A |
`
	timeTable = `
| nextI0 | closed ?D | next ?D |
| nextI1 | next ?A; closed {?A} ?D | next ?D |
| nextI2 | next ?A; next ?B; closed {?A; ?B} ?D | next ?D |
| nextI3 | next ?A; next ?B; next ?C; closed {?A; ?B; ?C} ?D | next ?D |
| nextN1 | ~next ?A | next ~?A |
| nextN2 | next ~?A | ~next ?A |
| alwI0 | closed ?D | always ?D |
| alwI1 | always ?A; closed {?A} ?D | always ?D |
| alwI2 | always ?A; always ?B; closed {?A; ?B} ?D | always ?D |
| alwI3 | always ?A; always ?B; always ?C; closed {?A; ?B; ?C} ?D | always ?D |
| alwE | always ?A | ?A |
| alwX | always ?A | next always ?A |
| ind | ?A; closed {?A} next ?A | always ?A |
| untI1 | ?B | ?A until ?B |
| untI2 | ?A; next (?A until ?B) | ?A until ?B |
| untE | ?A until ?B; closed {?B} ?C; closed {?A; next ?C} ?C | ?C |
`
)

// libraryModel has the logics of the library as the chapter's table has them.
var libraryModel = []struct {
	name        string
	kind, frame uint8
	ops         []uint8
	size        int
	rules       string
}{
	{"K1", 1, 0, []uint8{1, 2, 3, 4, 5, 6, 7}, 15, propositionalTable + raaTable},
	{"J", 3, 0, []uint8{1, 2, 3, 4, 5, 6, 7}, 14, propositionalTable},
	{"K2", 2, 0, []uint8{1, 2, 3, 4, 5, 6, 7, 8, 9}, 19, propositionalTable + raaTable + quantifierTable},
	{"K", 4, 0, []uint8{1, 2, 3, 4, 5, 6, 7, 10, 11}, 21, propositionalTable + raaTable + modalTable},
	{"T", 4, 1, []uint8{1, 2, 3, 4, 5, 6, 7, 10, 11}, 22, propositionalTable + raaTable + modalTable + boxETable},
	{"S4", 4, 3, []uint8{1, 2, 3, 4, 5, 6, 7, 10, 11}, 23, propositionalTable + raaTable + modalTable + boxETable + box4Table},
	{"S5", 4, 7, []uint8{1, 2, 3, 4, 5, 6, 7, 10, 11}, 24, propositionalTable + raaTable + modalTable + boxETable + box4Table + dia5Table},
	{"L", 5, 0, []uint8{1, 2, 3, 4, 5, 6, 7, 12, 13, 14}, 31, propositionalTable + raaTable + timeTable},
}

// table returns the rules of the rows of a table.
func table(text string) []api.Rule {
	const bar = "\x00"
	var l []api.Rule
	for row := range strings.Lines(text) {
		cells := strings.Split(strings.ReplaceAll(row, `\|`, bar), "|")
		if len(cells) != 5 {
			continue
		}
		for i, c := range cells {
			cells[i] = strings.TrimSpace(strings.ReplaceAll(c, bar, "|"))
		}
		l = append(l, ruleOf(cells[1], cells[2], cells[3]))
	}
	return l
}

// P9.1: the names of the library, in their order.
func TestNames(t *testing.T) {
	want := []string{"K1", "J", "K2", "K", "T", "S4", "S5", "L"}
	for range 2 {
		l := Names()
		if !slices.Equal(l, want) {
			t.Fatalf("%q", l)
		}
		for i := range l[:cap(l)] {
			l[:cap(l)][i] = "spoilt"
		}
	}
}

// P9.1: the logics of the library, and how many rules they have.
func TestNamed(t *testing.T) {
	for _, m := range libraryModel {
		l, errno := Named(m.name)
		ops := uint32(0)
		for _, op := range m.ops {
			ops |= 1 << op
		}
		if errno != api.OK || l.Name != m.name || l.Kind != m.kind || l.Frame != m.frame || l.Ops != ops || len(l.Rules) != m.size {
			t.Errorf("%s: %s of kind %d, frame %d, ops %b, with %d rules, error %d", m.name, l.Name, l.Kind, l.Frame, l.Ops, len(l.Rules), errno)
		}
		want := table(m.rules)
		if len(want) != m.size {
			t.Fatalf("%d rules in the tables of %s", len(want), m.name)
		}
		for i, r := range want {
			if !sameRule(l.Rules[i], r) {
				t.Errorf("%s: %s instead of %s", m.name, showRule(l.Rules[i]), showRule(r))
			}
		}
	}
}

// P9.1: premises, by their fields.
func TestNamedPremises(t *testing.T) {
	l := named(t, "K2")
	r := l.Rules[18]
	if len(r.Prems) != 2 || len(r.Prems[0].Hyps) != 0 || r.Prems[0].Fresh != "" || r.Prems[1].Fresh != "?a" || len(r.Prems[1].Hyps) != 1 || r.Prems[1].Closed {
		t.Fatalf("someE is %v", r)
	}
	if hyp := r.Prems[1].Hyps[0]; hyp.Op != api.OpInst || hyp.Name != "?A" || hyp.Args[0].Name != "x" || hyp.Args[1].Name != "?a" {
		t.Errorf("someE discharges %v", hyp)
	}
	r = named(t, "L").Rules[30]
	if len(r.Prems) != 3 || r.Prems[0].Closed || !r.Prems[1].Closed || len(r.Prems[1].Hyps) != 1 || !r.Prems[2].Closed || len(r.Prems[2].Hyps) != 2 || r.Prems[2].Hyps[1].Op != api.OpNext || r.Concl.Op != api.OpMeta {
		t.Errorf("untE is %v", r)
	}
}

// P9.1: names of no logic.
func TestNotNamed(t *testing.T) {
	for _, name := range []string{"", "k1", "K1 ", " K1", "K3", "S", "S45", "j", "M", "andI", "K1\x00", "L\n", strings.Repeat("K", 1<<16)} {
		if l, errno := Named(name); errno != api.ErrNone || !zeroLogic(l) {
			t.Errorf("%.20q: a logic with %d rules, error %d", name, len(l.Rules), errno)
		}
	}
}

// P9.1: what is returned shares no memory, neither with other results nor within itself.
func TestNamedMemory(t *testing.T) {
	for _, name := range Names() {
		a, b := named(t, name), named(t, name)
		want := copiedLogic(b)
		for i := range a.Rules {
			others := copiedLogic(a)
			spoilRule(a.Rules[i])
			for j, r := range a.Rules {
				if j > i && !sameRule(r, others.Rules[j]) {
					t.Fatalf("%s: %s shares memory with %s", name, a.Rules[i].Name, r.Name)
				}
			}
		}
		for i := range a.Rules[:cap(a.Rules)] {
			a.Rules[:cap(a.Rules)][i] = api.Rule{Name: "spoilt"}
		}
		if !sameLogic(b, want) || !sameLogic(named(t, name), want) {
			t.Errorf("%s has changed", name)
		}
	}
}

// P9.4: the logics of the library are right, and so are logics with fewer of their rules.
func TestLibraryRight(t *testing.T) {
	for _, name := range Names() {
		l := named(t, name)
		if !Right(l) {
			t.Errorf("%s is not right", name)
		}
		for i, r := range l.Rules {
			if !rule.Right(r) {
				t.Errorf("%s of %s is not right", r.Name, name)
			}
			less := copiedLogic(l)
			less.Rules = slices.Delete(less.Rules, i, i+1)
			if !Right(less) {
				t.Errorf("%s without %s is not right", name, r.Name)
			}
			less.Rules = less.Rules[:i]
			if !Right(less) {
				t.Errorf("%s with the first %d rules is not right", name, i)
			}
		}
	}
}

// P9.4: what is a formula of a logic is one of each logic of the same Kind with more operators.
func TestMoreOperators(t *testing.T) {
	d := fixed(1)
	n := 0
	for range 4000 {
		m := libraryModel[d.IntN(len(libraryModel))]
		more := api.Logic{Name: "More", Kind: m.kind, Ops: Ops(m.kind)}
		less := more
		for _, op := range m.ops[1:] {
			if d.IntN(3) == 0 {
				less.Ops &^= 1 << op
			}
		}
		args := 0
		if m.kind == api.KindFinite {
			args = 2
		}
		f := d.form(3, args, m.ops[1:])
		if !Allowed(less, f) {
			continue
		}
		n++
		if !Allowed(more, f) {
			t.Fatalf("%s is a formula with %b, and not with %b", show(f), less.Ops, more.Ops)
		}
		for _, other := range libraryModel {
			if other.kind == m.kind && !Allowed(named(t, other.name), f) {
				t.Fatalf("%s is no formula of %s", show(f), other.name)
			}
		}
	}
	checkMany(t, "formulas of less", n, 1000)
}

// P9.4: formulas of one semantics that another one has, too.
func TestSameFormulas(t *testing.T) {
	d := fixed(2)
	for range 300 {
		f := d.form(4, 0, []uint8{2, 3, 4, 5, 6, 7})
		for _, name := range Names() {
			if !Allowed(named(t, name), f) {
				t.Fatalf("%s is no formula of %s", show(f), name)
			}
		}
		if !syntax.Right(f) {
			t.Fatal("what is drawn is not right")
		}
	}
}
