package parse

import (
	"slices"
	"strings"
	"testing"

	"lyceum/api"
	"lyceum/lex"
	"lyceum/syntax"
)

// pending is what is not yet complete on the left of a token: a bracket (its strength is 0), a sign of two parts with its left one, or a sign of one part.
type pending struct {
	strength int
	op       uint8
	name     string
	left     api.Form
}

// machine reads a text a second time, without recursion: it puts tokens on a stack and takes them off when a weaker sign comes.
type machine struct {
	tokens []lex.Token
	at     int
	metas  bool
	stack  []pending
	value  api.Form
	e      api.Errno
}

// text is the token at which the machine is.
func (m *machine) text() string { return m.tokens[m.at].Text }

// fail keeps the first error.
func (m *machine) fail(e api.Errno) bool {
	if m.e == api.OK {
		m.e = e
	}
	return false
}

// nests counts the brackets, the signs of one part, and the signs grouped from the right on the stack.
func (m *machine) nests() int {
	n := 0
	for _, p := range m.stack {
		if p.strength == 0 || p.strength == 2 || p.strength == 3 || p.strength == strongest {
			n++
		}
	}
	return n
}

// accept goes on by one token if it is what is wanted.
func (m *machine) accept(ok bool) bool {
	if !ok {
		return m.fail(ErrSyntax)
	}
	m.at++
	return true
}

// reduce completes what binds more strongly than a sign that comes, or just as strongly if it is grouped from the left.
func (m *machine) reduce(strength int) {
	for len(m.stack) > 0 {
		p := m.stack[len(m.stack)-1]
		if p.strength == 0 || p.strength < strength || p.strength == strength && (strength == 2 || strength == 3) {
			return
		}
		m.stack = m.stack[:len(m.stack)-1]
		if p.strength == strongest {
			m.value = one1(p.op, p.name, m.value)
		} else {
			m.value = two(p.op, p.left, m.value)
		}
	}
}

// operand reads what stands ahead of an operand, and the operand. It reports whether to go on.
func (m *machine) operand() bool {
	for {
		text := m.text()
		if m.nests() > 120 {
			return m.fail(ErrDeep)
		}
		switch text {
		case "~", "[]", "<>", "next", "always":
			m.at++
			m.stack = append(m.stack, pending{strength: strongest, op: opOf(text)})
			continue
		case "all", "some":
			m.at++
			name := m.text()
			if !m.accept(syntax.Variable(name)) {
				return false
			}
			m.stack = append(m.stack, pending{strength: strongest, op: opOf(text), name: name})
			continue
		case "(":
			m.at++
			m.stack = append(m.stack, pending{})
			continue
		case "false":
			m.at++
			m.value = api.Form{Op: api.OpFalse}
			return true
		}
		if m.metas && strings.HasPrefix(text, "?") && syntax.Predicate(text[1:]) {
			m.at++
			return m.instance(text)
		}
		if !m.accept(syntax.Predicate(text)) {
			return false
		}
		m.value = atom(text)
		if m.text() != "(" {
			return true
		}
		t, ok := m.terms(text)
		m.value.Args = t.Args
		return ok
	}
}

// instance reads what stands behind a metavariable.
func (m *machine) instance(name string) bool {
	m.value = api.Form{Op: api.OpMeta, Name: name}
	if m.text() != "[" {
		return true
	}
	m.at++
	t := m.text()
	if !m.accept(strings.HasPrefix(t, "?") && syntax.Function(t[1:])) || !m.accept(m.text() == "/") {
		return false
	}
	x := m.text()
	m.value = api.Form{Op: api.OpInst, Name: name, Args: []api.Term{variable(x), variable(t)}}
	return m.accept(syntax.Variable(x)) && m.accept(m.text() == "]")
}

// terms reads a term whose name has been read (none: the first token is to be one), with a stack of the terms that are open.
func (m *machine) terms(name string) (api.Term, bool) {
	open := []api.Term{{}}
	add := func(t api.Term) {
		last := &open[len(open)-1]
		last.Args = append(last.Args, t)
	}
	closed := func() {
		t := open[len(open)-1]
		open = open[:len(open)-1]
		add(t)
	}
	wanted := name == ""
	if !wanted {
		m.at++
		open = append(open, api.Term{Name: name})
		wanted = true
	}
	for {
		text := m.text()
		switch {
		case wanted && m.nests()+len(open)-1 > 120:
			return api.Term{}, m.fail(ErrDeep)
		case wanted && (syntax.Variable(text) || m.metas && strings.HasPrefix(text, "?") && syntax.Function(text[1:])):
			m.at++
			add(variable(text))
			wanted = false
		case wanted && syntax.Function(text):
			m.at++
			if m.text() == "(" {
				m.at++
				open = append(open, api.Term{Name: text})
				continue
			}
			add(function(text))
			wanted = false
		case !wanted && len(open) > 1 && text == ",":
			m.at++
			wanted = true
		case !wanted && len(open) > 1 && text == ")":
			m.at++
			closed()
		default:
			return api.Term{}, m.fail(ErrSyntax)
		}
		if !wanted && len(open) == 1 {
			return open[0].Args[0], true
		}
	}
}

// opOf is the operator that a sign makes.
func opOf(sign string) uint8 {
	for op, s := range signs {
		if s == sign {
			return op
		}
	}
	return 0
}

// forms reads formulas: up to the end, or up to the end of each with commas between them.
func (m *machine) forms(commas bool) []api.Form {
	var l []api.Form
	if commas && len(m.tokens) == 1 {
		return nil
	}
	for m.operand() {
		text := m.text()
		for text == ")" {
			m.reduce(1)
			if len(m.stack) == 0 {
				break
			}
			m.stack = m.stack[:len(m.stack)-1]
			m.at++
			text = m.text()
		}
		op := opOf(text)
		switch {
		case strengths[op] > 0:
			m.reduce(strengths[op])
			m.at++
			m.stack = append(m.stack, pending{strength: strengths[op], op: op, left: m.value})
			continue
		case m.tokens[m.at].Kind == lex.TokEnd || commas && text == ",":
			m.reduce(1)
			if len(m.stack) == 0 {
				l = append(l, m.value)
				m.at++
				if text == "," {
					continue
				}
				return l
			}
		}
		m.fail(ErrSyntax)
		break
	}
	return nil
}

// start lays a text before a machine; it reports false, with the error of lex, if there is one.
func start(s string, metas bool) (*machine, int, api.Errno) {
	tokens, at, e := lex.Lex(s)
	return &machine{tokens: tokens, metas: metas}, at, e
}

// place is where the error of a machine is.
func (m *machine) place() int { return m.tokens[m.at].At }

// modelForm is Form, or Schema, by the machine.
func modelForm(s string, metas bool) (api.Form, int, api.Errno) {
	m, at, e := start(s, metas)
	if e != api.OK {
		return api.Form{}, at, e
	}
	l := m.forms(false)
	if m.e != api.OK {
		return api.Form{}, m.place(), m.e
	}
	if !syntax.Schema(l[0]) {
		return api.Form{}, 0, api.ErrLong
	}
	return l[0], 0, api.OK
}

// modelForms is Forms by the machine.
func modelForms(s string) ([]api.Form, int, api.Errno) {
	m, at, e := start(s, false)
	if e != api.OK {
		return nil, at, e
	}
	l := m.forms(true)
	if m.e != api.OK {
		return nil, m.place(), m.e
	}
	if slices.ContainsFunc(l, func(f api.Form) bool { return !syntax.Right(f) }) {
		return nil, 0, api.ErrLong
	}
	if len(l) > 64 {
		return nil, 0, api.ErrMany
	}
	return l, 0, api.OK
}

// modelTerm is Term by the machine.
func modelTerm(s string) (api.Term, int, api.Errno) {
	m, at, e := start(s, false)
	if e != api.OK {
		return api.Term{}, at, e
	}
	t, ok := m.terms("")
	if ok && m.tokens[m.at].Kind != lex.TokEnd {
		ok = m.fail(ErrSyntax)
	}
	if !ok {
		return api.Term{}, m.place(), m.e
	}
	if nodes, depth := size(t); !syntax.Term(t) || nodes > 400 || depth > 40 {
		return api.Term{}, 0, api.ErrLong
	}
	return t, 0, api.OK
}

// size is the number of nodes of a term, and its depth.
func size(t api.Term) (nodes, depth int) {
	for _, arg := range t.Args {
		n, d := size(arg)
		nodes += n
		depth = max(depth, d)
	}
	return nodes + 1, depth + 1
}

// checkText compares all functions with the machine.
func checkText(t *testing.T, s string) api.Errno {
	t.Helper()
	want, at, e := modelForm(s, true)
	checkForm(t, "Schema", Schema, s, want, at, e)
	result := e
	want, at, e = modelForm(s, false)
	checkForm(t, "Form", Form, s, want, at, e)
	wantTerm, at, e := modelTerm(s)
	checkTerm(t, s, wantTerm, at, e)
	wantForms, at, e := modelForms(s)
	checkForms(t, s, wantForms, at, e)
	return result
}

// P5.1 to P5.3: all texts of few tokens.
func TestAllShortTexts(t *testing.T) {
	l := strings.Fields("all next false until -> <-> & P f x ?A ?t ( ) , / [ ]")
	for n, count := 0, 1; n <= 4; n, count = n+1, count*len(l) {
		for i := range count {
			texts := make([]string, n)
			for k := range texts {
				texts[k] = l[i%len(l)]
				i /= len(l)
			}
			checkText(t, strings.Join(texts, " "))
		}
	}
}

// P5.1 to P5.3: drawn texts, with brackets that are needed and some that are not, of which some are changed in a few tokens.
func TestDrawnTexts(t *testing.T) {
	d := fixed(1)
	count := map[api.Errno]int{}
	for range 20000 {
		l := d.tokens(d.form(1+d.IntN(5), d.IntN(3) > 0), 0, true)
		switch d.IntN(4) {
		case 0:
			l = append(append(l, ","), d.tokens(d.form(3, false), 0, true)...)
		case 1:
			l = split(termText(d.term(5, false)))
		}
		count[checkText(t, d.joined(d.broken(l)))]++
	}
	if count[api.OK] < 4000 || count[ErrSyntax] < 4000 {
		t.Errorf("results: %v", count)
	}
}

// deepText draws the beginning of a text that goes on within more and more nests, and then something else.
func (d draws) deepText(steps int) string {
	var l []string
	brackets := 0
	for range steps {
		s := d.of("~", "[]", "<>", "next", "always", "all x", "some y", "(", "(", "(", "(", "P ->", "Q until", "P &", "Q |", "R <->", "?A &", "P(x) ->", "(P & Q) until")
		l = append(l, s)
		if s == "(" {
			brackets++
		}
		if brackets > 0 && d.IntN(20) == 0 {
			l = append(l, "P)", d.of("&", "->", "until"))
			brackets--
		}
	}
	l = append(l, d.of("P", "P", "P(", "P(a,", "P(f(", "~", "all", "all x", ")", "", ",", "x", "false", "?A", "?A[?t/x]", "P, Q"))
	return strings.Join(l, " ") + strings.Repeat(")", brackets)
}

// P5.1: texts that nest about as deep as they may.
func TestDrawnDeepTexts(t *testing.T) {
	d := fixed(2)
	count := map[api.Errno]int{}
	for range 4000 {
		count[checkText(t, d.deepText(100+d.IntN(300)))]++
	}
	if count[ErrDeep] < 400 || count[ErrSyntax] < 400 || count[api.ErrLong] < 50 {
		t.Errorf("results: %v", count)
	}
}
