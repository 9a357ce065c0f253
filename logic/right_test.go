package logic

import (
	"slices"
	"strconv"
	"strings"
	"testing"

	"lyceum/api"
	"lyceum/rule"
	"lyceum/syntax"
)

// P9.2: the operators of each semantics.
func TestOps(t *testing.T) {
	want := map[uint8]uint32{1: 0xfe, 2: 0x3fe, 3: 0xfe, 4: 0xcfe, 5: 0x70fe}
	for kind := range 256 {
		if mask := Ops(uint8(kind)); mask != want[uint8(kind)] {
			t.Errorf("kind %d: %b", kind, mask)
		}
	}
}

// P9.2: logics that are right.
func TestRight(t *testing.T) {
	l := api.Logic{Name: "a", Kind: api.KindTruth, Ops: 1 << api.OpAtom}
	if !Right(l) {
		t.Error("a logic of atoms alone, without rules, is not right")
	}
	for _, m := range libraryModel {
		l := api.Logic{Name: "A1b2", Kind: m.kind}
		for op := range uint8(32) { // each operator alone, beside atoms
			l.Ops = 1<<api.OpAtom | 1<<op
			if want := slices.Contains(m.ops, op); Right(l) != want {
				t.Errorf("kind %d with op %d: %t", m.kind, op, !want)
			}
			l.Ops = Ops(m.kind) | 1<<op
			if want := slices.Contains(m.ops, op); Right(l) != want {
				t.Errorf("kind %d with all operators and %d: %t", m.kind, op, !want)
			}
			l.Ops = Ops(m.kind) &^ (1 << op)
			if want := op != api.OpAtom; Right(l) != want {
				t.Errorf("kind %d with all operators but %d: %t", m.kind, op, !want)
			}
		}
	}
}

// P9.2: what is no semantics, and conditions of relations.
func TestRightKindFrame(t *testing.T) {
	for kind := range 256 {
		for frame := range 256 {
			l := api.Logic{Name: "a", Kind: uint8(kind), Frame: uint8(frame), Ops: 1 << api.OpAtom}
			want := 1 <= kind && kind <= 5 && frame == 0 || kind == 4 && frame <= 7
			if Right(l) != want {
				t.Errorf("kind %d, frame %d: %t", kind, frame, !want)
			}
		}
		l := api.Logic{Name: "a", Kind: uint8(kind)}
		if Right(l) {
			t.Errorf("kind %d without operators is right", kind)
		}
	}
}

// P9.2: names of logics.
func TestLogicName(t *testing.T) {
	const letters = "abcdefghijklmnopqrstuvwxyzABCDEFGHIJKLMNOPQRSTUVWXYZ"
	l := named(t, "J")
	for c := range 256 {
		c := byte(c)
		letter, digit := strings.IndexByte(letters, c) >= 0, '0' <= c && c <= '9'
		if l.Name = string([]byte{c}); Right(l) != letter {
			t.Errorf("the name %q: %t", l.Name, !letter)
		}
		for _, name := range []string{string([]byte{'a', c}), string([]byte{'Z', c, '9'})} {
			if l.Name = name; Right(l) != (letter || digit) {
				t.Errorf("the name %q: %t", name, !letter)
			}
		}
	}
	for name, want := range map[string]bool{"": false, "abcdefghijklmnop": true, "abcdefghijklmnopq": false, "A123456789012345": true, "all": true, "S 4": false, "S4.2": false, "4S": false, "é": false, "aé": false, strings.Repeat("a", deep): false} {
		if l.Name = name; Right(l) != want {
			t.Errorf("the name %.20q: %t", name, !want)
		}
	}
}

// P9.2: how many rules there may be, and that their names differ.
func TestRightRules(t *testing.T) {
	l := named(t, "K1")
	for len(l.Rules) < 64 {
		l.Rules = append(l.Rules, ruleOf("more"+strconv.Itoa(len(l.Rules)), "", "?A | ~?A"))
	}
	if !Right(l) {
		t.Error("a logic with 64 rules is not right")
	}
	for i := range l.Rules {
		for _, j := range []int{0, 1, 31, 63} {
			twice := copiedLogic(l)
			twice.Rules[j].Name = twice.Rules[i].Name
			if want := i == j; Right(twice) != want {
				t.Errorf("the rules %d and %d with one name: %t", i, j, !want)
			}
		}
	}
	same := copiedLogic(l)
	same.Rules[63] = same.Rules[0]
	if same.Rules[63].Name = "other"; !Right(same) {
		t.Error("a rule twice, with different names, is not right")
	}
	l.Rules = append(l.Rules, ruleOf("oneMore", "", "?A -> ?A"))
	if Right(l) {
		t.Error("a logic with 65 rules is right")
	}
	l.Rules = make([]api.Rule, deep)
	if Right(l) {
		t.Error("a logic with many zero rules is right")
	}
}

// P9.2: rules that are not right make a logic wrong.
func TestWrongRules(t *testing.T) {
	l := named(t, "K2")
	for _, wrong := range []api.Rule{
		{},
		{Name: "?", Concl: form("?A")},
		{Name: "more"},
		{Name: "more", Concl: form("?A[?t/x]")},
		{Name: "more", Concl: nots(deep, form("P"))},
		{Name: "more", Concl: form("?A"), Prems: []api.Prem{{Hyps: []api.Form{form("?B")}, Concl: form("?A")}}},
		ruleOf("more", "?A; ?A; ?A; ?A; ?A", "?A"),
		ruleOf("more", "{?A; ?A; ?A; ?A} ?A", "?A"),
		ruleOf("more", "fresh ?b ?A", "all x ?A"),
	} {
		for _, at := range []int{0, 7, len(l.Rules)} {
			more := copiedLogic(l)
			more.Rules = slices.Insert(more.Rules, at, wrong)
			if Right(more) {
				t.Errorf("right with %s at %d", showRule(wrong), at)
			}
		}
	}
}

// P9.2: operators that a logic has not, in each schema of a rule; metavariables with terms only where there are quantifiers.
func TestRuleOperators(t *testing.T) {
	for _, m := range libraryModel {
		l := api.Logic{Name: "a", Kind: m.kind, Ops: Ops(m.kind)}
		for op := api.OpAtom; op <= api.OpInst; op++ {
			part := formOf(op)
			want := slices.Contains(m.ops, op)
			if op == api.OpMeta {
				part, want = form("?C"), true
			}
			if op == api.OpInst {
				part, want = form("?C[?t/y]"), m.kind == api.KindFinite
			}
			for i, r := range spoiltRules(part) {
				if !rule.Right(r) {
					t.Fatalf("%s is not right", showRule(r))
				}
				l.Rules = []api.Rule{ruleOf("first", "", "?A"), r, ruleOf("last", "", "?A")}
				if Right(l) != want {
					t.Errorf("kind %d, op %d at %d: %t", m.kind, op, i, !want)
				}
				if less := l; want && op != api.OpAtom && op < api.OpMeta {
					if less.Ops &^= 1 << op; Right(less) {
						t.Errorf("kind %d without op %d at %d is right", m.kind, op, i)
					}
				}
			}
		}
	}
}

// spoiltRules returns rules with a formula at a place each, as it is and below others. The first premise has all metavariables, so that the others may stand anywhere.
func spoiltRules(part api.Form) []api.Rule {
	var l []api.Rule
	for _, f := range []api.Form{part, one(api.OpNot, "", two(api.OpAnd, form("?A"), part))} {
		for _, put := range []func(r *api.Rule){
			func(r *api.Rule) { r.Concl = f },
			func(r *api.Rule) { r.Prems[0].Concl = two(api.OpAnd, r.Prems[0].Concl, f) },
			func(r *api.Rule) { r.Prems[1].Concl = f },
			func(r *api.Rule) { r.Prems[2].Concl = f },
			func(r *api.Rule) { r.Prems[2].Hyps[0] = f },
			func(r *api.Rule) { r.Prems[2].Hyps[2] = f },
		} {
			r := ruleOf("second", "?A & ?B & ?C; ?A; {?A; ?B; ?A} ?B", "?A & ?B")
			put(&r)
			l = append(l, r)
		}
	}
	return l
}

// P9.2: metavariables with terms, where there is one quantifier or none.
func TestInstances(t *testing.T) {
	r := ruleOf("put", "?A[?t/x]; ?A", "P")
	for _, c := range []struct {
		ops  uint32
		want bool
	}{
		{1 << api.OpAtom, false},
		{1<<api.OpAtom | 1<<api.OpAll, true},
		{1<<api.OpAtom | 1<<api.OpSome, true},
		{Ops(api.KindTruth), false},
		{Ops(api.KindFinite), true},
	} {
		l := api.Logic{Name: "a", Kind: api.KindFinite, Ops: c.ops, Rules: []api.Rule{r}}
		if Right(l) != c.want {
			t.Errorf("the operators %b: %t", c.ops, !c.want)
		}
	}
}

// P9.2: the chapter's examples, and formulas that are some of a logic.
func TestAllowed(t *testing.T) {
	for _, c := range []struct{ text, want string }{
		{"[]P", "K T S4 S5"},
		{"P(x)", "K2"},
		{"P", "K1 J K2 K T S4 S5 L"},
		{"false", "K1 J K2 K T S4 S5 L"},
		{"~(P & Q | R -> S <-> false)", "K1 J K2 K T S4 S5 L"},
		{"P & <>Q", "K T S4 S5"},
		{"all x P", "K2"},
		{"P & some x Q", "K2"},
		{"next P", "L"},
		{"P -> always Q", "L"},
		{"P until Q", "L"},
		{"[]next P", ""},
		{"all x []P", ""},
		{"all x next P", ""},
		{"[]P(a)", ""},
		{"next P(a)", ""},
		{"P(a) -> P(a)", "K2"},
		{"P(a, x)", "K2"},
		{"P(a, b, c)", ""},
		{"Q | P(a, b, x, y)", ""},
		{"P(f(x), f(f(f(a))))", "K2"},
		{"P(f(x, y))", ""},
		{"P(a, f(g(x, y)))", ""},
		{"P(x) & P(f(a, b, c, d))", ""},
		{"P & P(x) & P(x, y)", "K2"}, // one name with several numbers of arguments
		{"P(a) & P(a(x))", "K2"},
		{"?A", ""},
		{"P & ?A", ""},
		{"all x (?A[?t/x] & P)", ""},
		{"P(?t)", ""},
	} {
		for _, name := range Names() {
			want := slices.Contains(strings.Fields(c.want), name)
			if Allowed(named(t, name), form(c.text)) != want {
				t.Errorf("%s in %s: %t", c.text, name, !want)
			}
		}
	}
}

// P9.2: what is no formula, formulas at the limits, and logics that are not right.
func TestAllowedLimits(t *testing.T) {
	deepTerm := api.Term{Name: "a"}
	for range deep {
		deepTerm = api.Term{Name: "f", Args: []api.Term{deepTerm}}
	}
	for _, name := range Names() {
		l := named(t, name)
		for _, right := range []api.Form{nots(39, atom("P")), conjunction(200, atom("P"))} {
			if !Allowed(l, right) {
				t.Errorf("a formula of %d nodes is none of %s", syntax.Nodes(right), name)
			}
		}
		for _, wrong := range []api.Form{{}, {Op: 99}, {Op: 255}, atom("p"), atom(""), {Op: api.OpNot}, two(api.OpNot, atom("P"), atom("P")), {Op: api.OpAtom, Name: "P", Sub: []api.Form{atom("P")}}, atom("P", api.Term{}), atom("P", deepTerm), nots(40, atom("P")), nots(deep, atom("P")), conjunction(201, atom("P"))} {
			if Allowed(l, wrong) {
				t.Errorf("op %d with %d parts is a formula of %s", wrong.Op, len(wrong.Sub), name)
			}
		}
		l.Ops |= 1 << 15
		if Allowed(l, atom("P")) {
			t.Errorf("a formula of %s with more operators", name)
		}
	}
	if Allowed(api.Logic{}, atom("P")) || Allowed(api.Logic{}, api.Form{}) {
		t.Error("a formula of a zero logic")
	}
}

// P9.2: formulas that are drawn, for logics with some of the operators, against what the chapter says of each part.
func TestAllowedDrawn(t *testing.T) {
	d := fixed(3)
	all := []uint8{2, 3, 4, 5, 6, 7, 8, 9, 10, 11, 12, 13, 14}
	allowed, not := 0, 0
	for range 20000 {
		kind := uint8(1 + d.IntN(5))
		l := api.Logic{Name: "a", Kind: kind, Ops: Ops(kind)&(d.Uint32()|d.Uint32()) | 1<<api.OpAtom}
		ops := all
		if d.IntN(3) > 0 {
			ops = slices.DeleteFunc(slices.Clone(all), func(op uint8) bool { return l.Ops>>op&1 == 0 })
		}
		if len(ops) == 0 {
			continue
		}
		args := 0
		if kind == api.KindFinite || d.IntN(3) == 0 {
			args = 2 + d.IntN(2)
		}
		f := d.form(3, args, ops)
		want := partsAllowed(l, f)
		if Allowed(l, f) != want {
			t.Fatalf("%s with kind %d, operators %b: %t", show(f), kind, l.Ops, !want)
		}
		if want {
			allowed++
		} else {
			not++
		}
	}
	checkMany(t, "allowed", allowed, 4000)
	checkMany(t, "not allowed", not, 4000)
}

// partsAllowed tells whether all parts of a right formula are some of a logic.
func partsAllowed(l api.Logic, f api.Form) bool {
	if l.Ops>>f.Op&1 == 0 || len(f.Args) > 2 || len(f.Args) > 0 && l.Kind != api.KindFinite || !termsAllowed(f.Args) {
		return false
	}
	for _, part := range f.Sub {
		if !partsAllowed(l, part) {
			return false
		}
	}
	return true
}

func termsAllowed(l []api.Term) bool {
	for _, t := range l {
		if len(t.Args) > 1 || !termsAllowed(t.Args) {
			return false
		}
	}
	return true
}
