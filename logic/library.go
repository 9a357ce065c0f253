package logic

import (
	"slices"

	"lyceum/api"
)

// entry is a logic of the library. Its rules are texts, so that only those of a logic that is asked for are read.
type entry struct {
	name        string
	kind, frame uint8
	rules       []ruleText
}

// ruleText is a rule as a text.
type ruleText struct{ name, prems, concl string }

// library returns the logics of the library, in order.
func library() []entry {
	const (
		preorder    = api.FrameReflexive | api.FrameTransitive
		equivalence = preorder | api.FrameSymmetric
	)
	basic := slices.Concat(classical(), modal())
	conditions := framed()
	return []entry{
		assemble("K1", api.KindTruth, 0, classical()),
		assemble("J", api.KindForce, 0, propositional()),
		assemble("K2", api.KindFinite, 0, classical(), quantifiers()),
		assemble("K", api.KindModal, 0, basic),
		assemble("T", api.KindModal, api.FrameReflexive, basic, conditions[:1]),
		assemble("S4", api.KindModal, preorder, basic, conditions[:2]),
		assemble("S5", api.KindModal, equivalence, basic, conditions[:]),
		assemble("L", api.KindTrace, 0, classical(), time()),
	}
}

// assemble puts a logic together from groups of rules.
func assemble(name string, kind, frame uint8, groups ...[]ruleText) entry {
	return entry{name, kind, frame, slices.Concat(groups...)}
}

// propositional returns the rules that all logics have.
func propositional() []ruleText {
	rules := [...]ruleText{
		{"andI", "?A; ?B", "?A & ?B"},
		{"andE1", "?A & ?B", "?A"},
		{"andE2", "?A & ?B", "?B"},
		{"orI1", "?A", "?A | ?B"},
		{"orI2", "?B", "?A | ?B"},
		{"orE", "?A | ?B; {?A} ?C; {?B} ?C", "?C"},
		{"impI", "{?A} ?B", "?A -> ?B"},
		{"impE", "?A -> ?B; ?A", "?B"},
		{"notI", "{?A} false", "~?A"},
		{"notE", "?A; ~?A", "false"},
		{"falseE", "false", "?A"},
		{"iffI", "{?A} ?B; {?B} ?A", "?A <-> ?B"},
		{"iffE1", "?A <-> ?B; ?A", "?B"},
		{"iffE2", "?A <-> ?B; ?B", "?A"},
	}
	return rules[:]
}

// classical returns the rules that all logics but the intuitionistic one have.
func classical() []ruleText {
	return append(propositional(), ruleText{"raa", "{~?A} false", "?A"})
}

// quantifiers returns the rules of what is said of elements.
func quantifiers() []ruleText {
	rules := [...]ruleText{
		{"allI", "fresh ?a ?A[?a/x]", "all x ?A"},
		{"allE", "all x ?A", "?A[?t/x]"},
		{"someI", "?A[?t/x]", "some x ?A"},
		{"someE", "some x ?A; fresh ?a {?A[?a/x]} ?C", "?C"},
	}
	return rules[:]
}

// modal returns the rules of worlds, whatever they see.
func modal() []ruleText {
	rules := [...]ruleText{
		{"boxI0", "closed ?D", "[]?D"},
		{"boxI1", "[]?A; closed {?A} ?D", "[]?D"},
		{"boxI2", "[]?A; []?B; closed {?A; ?B} ?D", "[]?D"},
		{"boxI3", "[]?A; []?B; []?C; closed {?A; ?B; ?C} ?D", "[]?D"},
		{"diaI", "~[]~?A", "<>?A"},
		{"diaE", "<>?A", "~[]~?A"},
	}
	return rules[:]
}

// framed returns the rules of worlds that see themselves, that see all that is seen by what they see, and that are seen by all that they see: those of a condition each, in the order in which the logics add them.
func framed() [3]ruleText {
	return [...]ruleText{
		{"boxE", "[]?A", "?A"},
		{"box4", "[]?A", "[][]?A"},
		{"dia5", "<>?A", "[]<>?A"},
	}
}

// time returns the rules of what comes next, stays, and ends.
func time() []ruleText {
	rules := [...]ruleText{
		{"nextI0", "closed ?D", "next ?D"},
		{"nextI1", "next ?A; closed {?A} ?D", "next ?D"},
		{"nextI2", "next ?A; next ?B; closed {?A; ?B} ?D", "next ?D"},
		{"nextI3", "next ?A; next ?B; next ?C; closed {?A; ?B; ?C} ?D", "next ?D"},
		{"nextN1", "~next ?A", "next ~?A"},
		{"nextN2", "next ~?A", "~next ?A"},
		{"alwI0", "closed ?D", "always ?D"},
		{"alwI1", "always ?A; closed {?A} ?D", "always ?D"},
		{"alwI2", "always ?A; always ?B; closed {?A; ?B} ?D", "always ?D"},
		{"alwI3", "always ?A; always ?B; always ?C; closed {?A; ?B; ?C} ?D", "always ?D"},
		{"alwE", "always ?A", "?A"},
		{"alwX", "always ?A", "next always ?A"},
		{"ind", "?A; closed {?A} next ?A", "always ?A"},
		{"untI1", "?B", "?A until ?B"},
		{"untI2", "?A; next (?A until ?B)", "?A until ?B"},
		{"untE", "?A until ?B; closed {?B} ?C; closed {?A; next ?C} ?C", "?C"},
	}
	return rules[:]
}
