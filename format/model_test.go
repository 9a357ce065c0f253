package format

import (
	"math/bits"
	"strings"
	"testing"

	"lyceum/api"
	"lyceum/parse"
	"lyceum/syntax"
)

// termOf writes a term, with nothing between arguments but what is told.
func termOf(t api.Term, between string) string {
	var l []string
	for _, arg := range t.Args {
		l = append(l, termOf(arg, between))
	}
	if len(l) == 0 {
		return t.Name
	}
	return t.Name + "(" + strings.Join(l, between) + ")"
}

// basicOf writes a schema without parts.
func basicOf(f api.Form, between string) string {
	switch f.Op {
	case api.OpFalse:
		return "false"
	case api.OpInst:
		return f.Name + "[" + f.Args[1].Name + "/" + f.Args[0].Name + "]"
	}
	return termOf(function(f.Name, f.Args...), between)
}

// layout is a text in pieces, with the brackets around parts of two parts: where each pair opens and closes.
type layout struct {
	pieces []string
	pairs  [][2]int
}

// add lays out a schema, with brackets around all its parts that have two parts.
func (l *layout) add(f api.Form) {
	switch len(f.Sub) {
	case 0:
		l.pieces = append(l.pieces, basicOf(f, ", "))
	case 1:
		l.pieces = append(l.pieces, written[f.Op])
		if f.Name != "" {
			l.pieces = append(l.pieces, f.Name+" ")
		}
		l.addPart(f.Sub[0])
	default:
		l.addPart(f.Sub[0])
		l.pieces = append(l.pieces, written[f.Op])
		l.addPart(f.Sub[1])
	}
}

// addPart lays out a part.
func (l *layout) addPart(f api.Form) {
	if len(f.Sub) < 2 {
		l.add(f)
		return
	}
	open := len(l.pieces)
	l.pieces = append(l.pieces, "(")
	l.add(f)
	l.pairs = append(l.pairs, [2]int{open, len(l.pieces)})
	l.pieces = append(l.pieces, ")")
}

// without returns the text without some pairs of brackets: those whose bits are set.
func (l *layout) without(pairs uint64) string {
	pieces := append([]string(nil), l.pieces...)
	for i, pair := range l.pairs {
		if pairs>>i&1 == 1 {
			pieces[pair[0]], pieces[pair[1]] = "", ""
		}
	}
	return strings.Join(pieces, "")
}

// means reports whether a text is read as a schema.
func means(s string, f api.Form) bool {
	g, _, e := parse.Schema(s)
	return e == api.OK && syntax.Same(f, g)
}

// shortest is the text of a schema, found by leaving out each pair of brackets without which the reader still finds the schema.
func (l *layout) shortest(f api.Form) (string, uint64) {
	var out uint64
	for i := range l.pairs {
		if means(l.without(out|1<<i), f) {
			out |= 1 << i
		}
	}
	return l.without(out), out
}

// prefixOf writes the prefix text.
func prefixOf(f api.Form) string {
	if len(f.Sub) == 0 {
		return basicOf(f, ",")
	}
	l := strings.Fields(written[f.Op] + " " + f.Name)
	for _, part := range f.Sub {
		l = append(l, prefixOf(part))
	}
	return strings.Join(l, " ")
}

// checkModel compares all texts of a schema with those of the model.
func checkModel(t *testing.T, f api.Form) *layout {
	t.Helper()
	l := &layout{}
	l.add(f)
	if len(l.pairs) > 63 {
		t.Fatalf("%d pairs of brackets", len(l.pairs))
	}
	short, _ := l.shortest(f)
	checkTexts(t, f, short, l.without(0), prefixOf(f))
	return l
}

// checkMany tests that what was drawn had enough of what is looked for.
func checkMany(t *testing.T, what string, n, least int) {
	t.Helper()
	if n < least {
		t.Errorf("%d %s", n, what)
	}
}

// P6.1, P6.3: the texts of all schemas of few operators; with the text, no other set of brackets does that is not larger.
func TestSmallSchemas(t *testing.T) {
	least := basics()
	small := append(above(least[:3], least[5:]), least...)
	for _, f := range append(above(small, small[:40]), above(least[:2], small)...) {
		l := checkModel(t, f)
		_, out := l.shortest(f)
		for set := range uint64(1) << len(l.pairs) {
			if bits.OnesCount64(set) >= bits.OnesCount64(out) && set != out && means(l.without(set), f) {
				t.Errorf("%q and %q", l.without(out), l.without(set))
			}
		}
	}
}

// P6.1, P6.3: the texts of drawn schemas.
func TestDrawnSchemas(t *testing.T) {
	d := fixed(1)
	brackets := 0
	for range 5000 {
		f := d.form(1 + d.IntN(6))
		brackets += len(checkModel(t, f).pairs)
	}
	checkMany(t, "pairs of brackets", brackets, 8000)
}

// P6.3: no pair of round brackets can be left out of the text of a schema, those of arguments among them.
func TestEachPairIsNeeded(t *testing.T) {
	d := fixed(2)
	tried := 0
	for range 3000 {
		f := d.form(6)
		s, _ := Form(f)
		var open []int
		for i := range s {
			switch s[i] {
			case '(':
				open = append(open, i)
			case ')':
				at := open[len(open)-1]
				open = open[:len(open)-1]
				if tried++; means(s[:at]+" "+s[at+1:i]+" "+s[i+1:], f) {
					t.Errorf("%q needs no brackets from %d to %d", s, at, i)
				}
			}
		}
	}
	checkMany(t, "pairs of brackets", tried, 8000)
}

// P6.3: reading a text or a full text gives the schema.
func TestReading(t *testing.T) {
	d := fixed(3)
	large := 0
	for range 3000 {
		f := d.form(1 + d.IntN(11))
		if !syntax.Schema(f) {
			continue
		}
		if syntax.Nodes(f) > 200 {
			large++
		}
		s, e := Form(f)
		full, eFull := Full(f)
		if e != api.OK || eFull != api.OK || !means(s, f) || !means(full, f) {
			t.Errorf("%q, %d and %q, %d", s, e, full, eFull)
		}
	}
	checkMany(t, "large schemas", large, 30)
}

// P6.3: reading the texts of formulas gives the formulas.
func TestReadingForms(t *testing.T) {
	d := fixed(4)
	tried := 0
	for range 3000 {
		var l []api.Form
		for range d.IntN(5) {
			if f := d.form(1 + d.IntN(4)); syntax.Right(f) {
				l = append(l, f)
			}
		}
		s, e := Forms(l)
		back, _, eBack := parse.Forms(s)
		if e != api.OK || eBack != api.OK || len(back) != len(l) {
			t.Errorf("%q: %d, %d", s, e, eBack)
			continue
		}
		for i, f := range l {
			if tried++; !syntax.Same(f, back[i]) {
				t.Errorf("%q: the formula %d", s, i)
			}
		}
	}
	checkMany(t, "formulas", tried, 3000)
}

// P6.3: schemas that differ have different texts of each sort.
func TestDifferentTexts(t *testing.T) {
	least := append(basics(), inst("?A", "?t", "y"), inst("?A", "?f", "x"), inst("?B", "?t", "x"), meta("?B"), atom("P", variable("?t")), atom("P", function("a"), function("a")), atom("P", function("a", function("a"), function("a"))), atom("P1"))
	small := append(above(least, least[:6]), least...)
	all := append(above(small, least[:2]), above(least[:2], small)...)
	seen := map[string]api.Form{}
	for _, f := range append(all, small...) {
		for sort, call := range map[string]func(f api.Form) (string, api.Errno){"text ": Form, "full text ": Full, "prefix text ": Prefix} {
			s, e := call(f)
			if g, ok := seen[sort+s]; e != api.OK || ok && !syntax.Same(f, g) {
				t.Fatalf("the %s%q, %d is of two schemas", sort, s, e)
			}
			seen[sort+s] = f
		}
	}
	checkMany(t, "texts", len(seen), 10000)
}

// P6.1, P6.2: schemas with a field changed are written if, and only if, they are right.
func TestDrawnErrors(t *testing.T) {
	d := fixed(5)
	wrong := 0
	for range 20000 {
		f := d.spoiled(d.form(1 + d.IntN(4)))
		if syntax.Schema(f) {
			checkModel(t, f)
			continue
		}
		wrong++
		checkNotRight(t, f)
	}
	checkMany(t, "wrong schemas", wrong, 10000)
}
