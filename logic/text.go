package logic

import (
	"iter"
	"strings"

	"lyceum/api"
	"lyceum/parse"
)

// logic returns the logic that an entry of the library is. Each one has all operators of its semantics.
func (e entry) logic() api.Logic {
	l := api.Logic{Name: e.name, Ops: Ops(e.kind), Kind: e.kind, Frame: e.frame}
	for _, t := range e.rules {
		l.Rules = append(l.Rules, t.rule())
	}
	return l
}

// rule returns the rule that a text is.
func (t ruleText) rule() api.Rule {
	r := api.Rule{Name: t.name, Concl: schema(t.concl)}
	for p := range premises(t.prems) {
		r.Prems = append(r.Prems, p)
	}
	return r
}

// premises yields the premises of a text. Semicolons between braces end none: they separate the Hyps of one.
func premises(s string) iter.Seq[api.Prem] {
	return func(yield func(api.Prem) bool) {
		begin, braces := 0, false
		for i, c := range s {
			switch {
			case c == '{' || c == '}':
				braces = c == '{'
			case c == ';' && !braces:
				if !yield(premise(s[begin:i])) {
					return
				}
				begin = i + 1
			}
		}
		yield(premise(s[begin:]))
	}
}

// premise returns the premise that a text is: "closed", "fresh ?a", {..} with its Hyps, as far as it has them, and its Concl.
func premise(s string) api.Prem {
	var p api.Prem
	s, p.Closed = strings.CutPrefix(strings.TrimSpace(s), "closed ")
	if rest, found := strings.CutPrefix(s, "fresh "); found {
		p.Fresh, s, _ = strings.Cut(rest, " ")
	}
	if rest, found := strings.CutPrefix(s, "{"); found {
		hyps, concl, _ := strings.Cut(rest, "}")
		for _, hyp := range strings.Split(hyps, ";") {
			p.Hyps = append(p.Hyps, schema(hyp))
		}
		s = concl
	}
	p.Concl = schema(s)
	return p
}

// schema returns the schema that a text is. Those of the library are right, so no error is looked for.
func schema(s string) api.Form {
	f, _, _ := parse.Schema(s)
	return f
}
