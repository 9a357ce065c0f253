package logic

import (
	"strings"
	"testing"

	"lyceum/api"
)

// world is a model that is small enough to be tried with all that metavariables can stand for: they stand for sets of points, which are masks.
type world struct {
	kind uint8
	size int
	sees []int // for each point a mask: worlds, or the next position
}

// all returns the mask of all points.
func (w world) all() int { return 1<<w.size - 1 }

// points returns the mask of the points at which something holds.
func (w world) points(holds func(p int) bool) int {
	mask := 0
	for p := range w.size {
		if holds(p) {
			mask |= 1 << p
		}
	}
	return mask
}

// within returns the mask of the points that see only points of a mask.
func (w world) within(mask int) int {
	return w.points(func(p int) bool { return w.sees[p]&^mask == 0 })
}

// values says what metavariables stand for, by their names.
type values map[string]int

// at returns the mask of the points at which a schema of a logic without quantifiers holds.
func (w world) at(f api.Form, v values) int {
	var l []int
	for _, part := range f.Sub {
		l = append(l, w.at(part, v))
	}
	later := func(mask int) int { // what holds from a point on, where that is not so of itself
		if w.kind == api.KindForce {
			return w.within(mask)
		}
		return mask
	}
	switch f.Op {
	case api.OpMeta:
		return v[f.Name]
	case api.OpFalse:
		return 0
	case api.OpNot:
		return later(w.all() &^ l[0])
	case api.OpAnd:
		return l[0] & l[1]
	case api.OpOr:
		return l[0] | l[1]
	case api.OpImp:
		return later(w.all()&^l[0] | l[1])
	case api.OpIff:
		return later(w.all() &^ (l[0] ^ l[1]))
	case api.OpBox, api.OpNext:
		return w.within(l[0])
	case api.OpDia:
		return w.all() &^ w.within(w.all()&^l[0])
	case api.OpAlways:
		mask := l[0]
		for range w.size {
			mask &= w.within(mask)
		}
		return mask
	case api.OpUntil:
		mask := l[1]
		for range w.size {
			mask |= l[0] & w.within(mask)
		}
		return mask
	}
	panic("an operator of no such logic")
}

// premise returns the mask of the points at which a premise holds.
func (w world) premise(p api.Prem, v values) int {
	hyps := w.all()
	for _, hyp := range p.Hyps {
		hyps &= w.at(hyp, v)
	}
	mask := w.all()&^hyps | w.at(p.Concl, v)
	if p.Closed {
		if mask != w.all() {
			return 0
		}
		return mask
	}
	if w.kind == api.KindForce {
		return w.within(mask)
	}
	return mask
}

// sound reports whether a rule leads only to what holds, whatever its metavariables stand for.
func (w world) sound(r api.Rule) bool {
	return w.soundWith(r, values{}, metasOf(r))
}

func (w world) soundWith(r api.Rule, v values, names []string) bool {
	if len(names) == 0 {
		mask := w.all()
		for _, p := range r.Prems {
			mask &= w.premise(p, v)
		}
		return mask&^w.at(r.Concl, v) == 0
	}
	for set := 0; set <= w.all(); set++ {
		if w.kind == api.KindForce && set&^w.within(set) != 0 {
			continue // what holds goes on to hold
		}
		v[names[0]] = set
		if !w.soundWith(r, v, names[1:]) {
			return false
		}
	}
	return true
}

// metasOf returns the metavariables of formulas in a rule.
func metasOf(r api.Rule) []string {
	var l []string
	text := showRule(r)
	for _, name := range []string{"?A", "?B", "?C", "?D"} {
		if strings.Contains(text, name) {
			l = append(l, name)
		}
	}
	return l
}

// worlds returns all models of a semantics, without quantifiers, with conditions, up to a size.
func worlds(kind, frame uint8, size int) []world {
	var l []world
	for n := 1; n <= size; n++ {
		switch kind {
		case api.KindTruth:
			return []world{{kind, 1, []int{0}}}
		case api.KindTrace:
			for loop := range n {
				w := world{kind, n, nil}
				for p := 1; p < n; p++ {
					w.sees = append(w.sees, 1<<p)
				}
				w.sees = append(w.sees, 1<<loop)
				l = append(l, w)
			}
			continue
		}
		for code := range 1 << (n * n) {
			w := world{kind, n, nil}
			for p := range n {
				w.sees = append(w.sees, code>>(p*n)&w.all())
			}
			if w.fits(frame) {
				l = append(l, w)
			}
		}
	}
	return l
}

// fits reports whether a relation satisfies conditions; that of intuitionistic logic is an order.
func (w world) fits(frame uint8) bool {
	sees := func(p, q int) bool { return w.sees[p]>>q&1 == 1 }
	if w.kind == api.KindForce {
		frame = api.FrameReflexive | api.FrameTransitive
	}
	for p := range w.size {
		if frame&api.FrameReflexive != 0 && !sees(p, p) {
			return false
		}
		for q := range w.size {
			if frame&api.FrameSymmetric != 0 && sees(p, q) && !sees(q, p) {
				return false
			}
			if w.kind == api.KindForce && p != q && sees(p, q) && sees(q, p) {
				return false
			}
			if frame&api.FrameTransitive != 0 && sees(p, q) && w.sees[q]&^w.sees[p] != 0 {
				return false
			}
		}
	}
	return true
}

// soundIn reports whether a rule is sound in all small models of a semantics with conditions.
func soundIn(kind, frame uint8, r api.Rule) bool {
	if kind == api.KindFinite {
		return soundOfElements(r)
	}
	size := map[uint8]int{api.KindTruth: 1, api.KindForce: 3, api.KindModal: 3, api.KindTrace: 4}[kind]
	for _, w := range worlds(kind, frame, size) {
		if !w.sound(r) {
			return false
		}
	}
	return true
}

// elements is a structure: ?A says something of elements, the others say nothing of them.
type elements struct {
	size int
	sets values // masks of elements
	at   values // elements, for metavariables of terms and variables
}

// holds reports whether a schema holds in a structure.
func (e elements) holds(f api.Form) bool {
	with := func(element int) bool {
		outer, was := e.at[f.Name]
		e.at[f.Name] = element
		yes := e.holds(f.Sub[0])
		delete(e.at, f.Name)
		if was {
			e.at[f.Name] = outer
		}
		return yes
	}
	switch f.Op {
	case api.OpMeta:
		return e.sets[f.Name]>>e.at["x"]&1 == 1
	case api.OpInst:
		return e.sets[f.Name]>>e.at[f.Args[1].Name]&1 == 1
	case api.OpAll, api.OpSome:
		some := false
		for element := range e.size {
			if yes := with(element); !yes && f.Op == api.OpAll {
				return false
			} else if yes {
				some = true
			}
		}
		return some
	}
	w, v := world{api.KindTruth, 1, []int{0}}, values{} // the others are as they are without quantifiers
	f.Sub = append([]api.Form(nil), f.Sub...)
	for i, part := range f.Sub {
		name := "?" + string(rune('A'+i))
		v[name] = 0
		if e.holds(part) {
			v[name] = 1
		}
		f.Sub[i] = api.Form{Op: api.OpMeta, Name: name}
	}
	return w.at(f, v) == 1
}

// premise reports whether a premise holds in a structure: with a fresh name, whatever element that is.
func (e elements) premise(p api.Prem) bool {
	holds := func() bool {
		for _, hyp := range p.Hyps {
			if !e.holds(hyp) {
				return true
			}
		}
		return e.holds(p.Concl)
	}
	if p.Fresh == "" {
		return holds()
	}
	for element := range e.size {
		e.at[p.Fresh] = element
		if !holds() {
			return false
		}
	}
	return true
}

// soundOfElements reports whether a rule is sound in all structures of up to three elements. A metavariable that stands for something outside of quantifiers says it of all elements alike.
func soundOfElements(r api.Rule) bool {
	quantified := strings.Contains(showRule(r), " x ")
	for size := 1; size <= 3; size++ {
		sets := []int{0, 1<<size - 1}
		if quantified {
			sets = nil
			for set := range 1 << size {
				sets = append(sets, set)
			}
		}
		for term := range size {
			for _, a := range sets {
				for others := range 8 {
					e := elements{size, values{"?A": a}, values{"?t": term, "?a": term}}
					for i, name := range []string{"?B", "?C", "?D"} {
						e.sets[name] = (1<<size - 1) * (others >> i & 1)
					}
					if !e.sound(r, term) {
						return false
					}
				}
			}
		}
	}
	return true
}

// sound reports whether a rule leads to what holds in a structure; what is fresh in a premise is the same element again in the conclusion.
func (e elements) sound(r api.Rule, term int) bool {
	for _, p := range r.Prems {
		if !e.premise(p) {
			return true
		}
		e.at["?a"] = term
	}
	return e.holds(r.Concl)
}

// P9.4: the rules of the library are sound for its semantics.
func TestSound(t *testing.T) {
	for _, m := range libraryModel {
		l := named(t, m.name)
		for _, r := range l.Rules {
			if !soundIn(l.Kind, l.Frame, r) {
				t.Errorf("%s of %s is not sound", showRule(r), m.name)
			}
		}
		if len(l.Rules) != m.size {
			t.Errorf("%d rules of %s", len(l.Rules), m.name)
		}
	}
}

// P9.4: rules of a logic are not sound in the models of weaker ones, and conditions of premises matter: what is tested above can fail.
func TestNotSound(t *testing.T) {
	for _, c := range []struct {
		kind, frame  uint8
		prems, concl string
	}{
		{api.KindForce, 0, "{~?A} false", "?A"}, // raa
		{api.KindForce, 0, "?A -> ?B", "~?A | ?B"},
		{api.KindTruth, 0, "?A | ?B", "?A"},
		{api.KindTruth, 0, "?A -> ?B; ?B", "?A"},
		{api.KindModal, 0, "[]?A", "?A"},                                          // boxE
		{api.KindModal, api.FrameTransitive, "[]?A", "?A"},                        //
		{api.KindModal, api.FrameSymmetric, "[]?A", "?A"},                         //
		{api.KindModal, api.FrameReflexive, "[]?A", "[][]?A"},                     // box4
		{api.KindModal, 5, "[]?A", "[][]?A"},                                      // not transitive
		{api.KindModal, 3, "<>?A", "[]<>?A"},                                      // dia5
		{api.KindModal, api.FrameReflexive, "<>?A", "[]<>?A"},                     //
		{api.KindModal, 7, "?D", "[]?D"},                                          // not closed
		{api.KindModal, 7, "[]?A; {?A} ?D", "[]?D"},                               //
		{api.KindModal, 7, "[]?A; ?B; closed {?A; ?B} ?D", "[]?D"},                //
		{api.KindModal, 0, "~[]?A", "[]~?A"},                                      //
		{api.KindTrace, 0, "?D", "next ?D"},                                       //
		{api.KindTrace, 0, "next ?A; {?A} ?D", "next ?D"},                         //
		{api.KindTrace, 0, "?A; {?A} next ?A", "always ?A"},                       // ind
		{api.KindTrace, 0, "next ?A", "?A"},                                       //
		{api.KindTrace, 0, "?A until ?B; {?B} ?C; {?A; next ?C} ?C", "?C"},        // untE
		{api.KindTrace, 0, "?A until ?B; closed {?B} ?C; {?A; next ?C} ?C", "?C"}, //
		{api.KindTrace, 0, "?A until ?B; {?B} ?C; closed {?A; next ?C} ?C", "?C"}, //
		{api.KindTrace, 0, "?A", "?A until ?B"},                                   //
		{api.KindFinite, 0, "?A[?a/x]", "all x ?A"},                               // not fresh
		{api.KindFinite, 0, "some x ?A", "?A[?t/x]"},                              //
		{api.KindFinite, 0, "some x ?A; {?A[?a/x]} ?C", "?C"},                     //
		{api.KindFinite, 0, "?A | ?B", "?B"},                                      //
	} {
		r := ruleOf("wrong", c.prems, c.concl)
		if soundIn(c.kind, c.frame, r) {
			t.Errorf("%s is sound for kind %d, frame %d", showRule(r), c.kind, c.frame)
		}
	}
}
