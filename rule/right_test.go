package rule

import (
	"slices"
	"strings"
	"testing"

	"lyceum/api"
	"lyceum/match"
)

// P8.1: right rules, those of all logics among them.
func TestRight(t *testing.T) {
	for _, text := range []string{
		"=> P", "=> ?A", "=> P(?t)", "=> ?A | ~?A",
		"?A; ?B => ?A & ?B", "?A & ?B => ?A", "?A | ?B; {?A} ?C; {?B} ?C => ?C", "{?A} ?B => ?A -> ?B", "?A; ~?A => false", "false => ?A",
		"fresh ?a ?A[?a/x] => all x ?A", "all x ?A => ?A[?t/x]", "?A[?t/x] => some x ?A", "some x ?A; fresh ?a {?A[?a/x]} ?C => ?C",
		"[]?A; []?B; []?C; closed {?A; ?B; ?C} ?D => []?D", "?A until ?B; closed {?B} ?C; closed {?A; next ?C} ?C => ?C",
		"?A; {~?A} ?B[?t/y] => false & ?B",                    // found in conclusions of different premises
		"fresh ?a {?A; ?A[?a/x]} ?A => P",                     // Fresh in a later one of the Hyps
		"fresh ?a ?A[?b/y] & ?A[?a/x] => all x ?A",            // Fresh not in the first OpInst
		"fresh ?a all x ?A[?a/x]; fresh ?a ?A[?a/x] => ?A",    // the same one twice, and below a quantifier
		"?A; ?A; ?A; {?A; ?A; ?A} ?A => ?A",                   // the limits
		"closed fresh ?a ?A[?a/x] => []all x ?A",              // both
		"P(?t, f(?s)); {Q(?q)} R => always P(x) until next Q", // terms need not stand in conclusions
	} {
		if !Right(rules(text)) {
			t.Errorf("%s is not right", text)
		}
	}
}

// P8.1: rules that are not right.
func TestNotRight(t *testing.T) {
	for _, text := range []string{
		"?A; ?A; ?A; ?A; ?A => ?A",           // premises
		"{?A; ?A; ?A; ?A} ?A => ?A",          // assumptions
		"?A; {?A; ?A; ?A; ?A} ?A => ?A",      // of another premise
		"{?A} ?B => ?B",                      // a metavariable in Hyps alone
		"{P; ~?A} ?B => ?B",                  // in a later one, and below
		"?B; {P} ?B & ?A[?t/x] => ?B",        // only with a term
		"=> ?A[?t/x]",                        // in the conclusion, too
		"?A => ?B[?t/x]",                     //
		"{?A[?t/x]} P => Q",                  // with a term, in Hyps alone
		"{?A} P => ?A[?t/x]",                 // nowhere in a conclusion as it is
		"fresh ?a ?A => all x ?A",            // Fresh nowhere
		"fresh ?a ?A[?b/x] => all x ?A",      // another one
		"fresh ?a P(?a) & ?A => all x ?A",    // not in an OpInst
		"fresh ?A ?A => all x ?A",            // of formulas
		"fresh ?A ?A[?a/x] => ?A",            // the Name of an OpInst
		"fresh ?a ?A => ?A[?a/x]",            // in the conclusion of the rule
		"fresh ?a ?A; {?A[?a/x]} ?A => ?A",   // in another premise
		"?A[?a/x]; fresh ?a {P(?a)} ?A => P", //
		"fresh x ?A[?a/x] => ?A",             // the variable
		"fresh a ?A[?a/x] => ?A",             // no metavariable
	} {
		if Right(rules(text)) {
			t.Errorf("%s is right", text)
		}
	}
	if Right(api.Rule{}) || Right(api.Rule{Name: "a"}) {
		t.Error("a rule without a conclusion is right")
	}
}

// P8.1: names of rules.
func TestRuleName(t *testing.T) {
	bytes := make([]byte, 256)
	for i := range bytes {
		bytes[i] = byte(i)
	}
	const letters = "abcdefghijklmnopqrstuvwxyzABCDEFGHIJKLMNOPQRSTUVWXYZ"
	r := rules("=> P")
	for _, c := range bytes {
		letter, digit := strings.IndexByte(letters, c) >= 0, '0' <= c && c <= '9'
		if r.Name = string([]byte{c}); Right(r) != letter {
			t.Errorf("the name %q: %t", r.Name, !letter)
		}
		for _, name := range []string{string([]byte{'a', c}), string([]byte{'Z', c, '9'})} {
			if r.Name = name; Right(r) != (letter || digit) {
				t.Errorf("the name %q: %t", name, !letter)
			}
		}
	}
	for name, want := range map[string]bool{"": false, "abcdefghijklmnop": true, "abcdefghijklmnopq": false, "A123456789012345": true, "all": true, "?A": false, "andI ": false, "and-I": false, "\u00e9": false, "a\u00e9": false, "orI1": true, "1or": false} {
		if r.Name = name; Right(r) != want {
			t.Errorf("the name %q: %t", name, !want)
		}
	}
}

// P8.1: schemas that are not right, at each place of a rule.
func TestRightSchemas(t *testing.T) {
	const text = "?A; {?A; ~?A; ?B} ?B => ?A -> ?B"
	for _, wrong := range []api.Form{{}, {Op: 99}, {Op: api.OpMeta, Name: "A"}, {Op: api.OpMeta, Name: "?a"}, {Op: api.OpInst, Name: "?A"}, {Op: api.OpInst, Name: "?A", Args: []api.Term{variable("x")}}, atom("P", variable("?A")), nots(40, form("?A")), conjunction(201, form("?A")), nots(deep, form("P"))} {
		for i, spoilt := range []func(r *api.Rule){
			func(r *api.Rule) { r.Concl = wrong },
			func(r *api.Rule) { r.Prems[0].Concl = wrong },
			func(r *api.Rule) { r.Prems[1].Concl = wrong },
			func(r *api.Rule) { r.Prems[1].Hyps[0] = wrong },
			func(r *api.Rule) { r.Prems[1].Hyps[2] = wrong },
			func(r *api.Rule) { r.Prems[1].Hyps[1] = wrong; r.Prems[1].Fresh = "?a" },
		} {
			r := rules(text)
			r.Prems[0].Concl = form("?A & ?B") // so that all is found even without the others
			if spoilt(&r); Right(r) {
				t.Errorf("right with op %d of %d parts at %d", wrong.Op, len(wrong.Sub), i)
			}
		}
	}
	for _, right := range []api.Form{nots(39, form("?A")), conjunction(200, form("?A"))} {
		r := rules(text)
		if r.Prems[1].Hyps[2] = right; !Right(r) {
			t.Error("a schema at the limit is not right")
		}
	}
}

// P8.1: rules that are drawn, against what the chapter says of sets of metavariables.
func TestRightDrawn(t *testing.T) {
	d := fixed(1)
	right, wrong := 0, 0
	for range 20000 {
		r := d.rule()
		want := rightModel(r)
		if Right(r) != want {
			t.Fatalf("%s: %t", showRule(r), !want)
		}
		if want {
			right++
		} else {
			wrong++
		}
	}
	checkMany(t, "right", right, 1000)
	checkMany(t, "wrong", wrong, 1000)
}

// rightModel tells whether a drawn rule is right, by the texts of its schemas.
func rightModel(r api.Rule) bool {
	concls := []string{show(r.Concl)}
	all := match.Metas(r.Concl)
	for _, p := range r.Prems {
		concls = append(concls, show(p.Concl))
		all = append(all, match.Metas(p.Concl)...)
		texts := show(p.Concl)
		for _, hyp := range p.Hyps {
			all = append(all, match.Metas(hyp)...)
			texts += " " + show(hyp)
		}
		if p.Fresh != "" && !strings.Contains(texts, "["+p.Fresh+"/") {
			return false
		}
	}
	plain := strings.ReplaceAll(strings.Join(concls, " ")+" ", "]", "] ")
	return !slices.ContainsFunc(all, func(name string) bool {
		return name[1] < 'a' && strings.Count(plain, name) == strings.Count(plain, name+"[")
	})
}
