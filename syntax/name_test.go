package syntax

import (
	"strings"
	"testing"
)

// sorts of names, as a string of letters: v for a variable, f for a function, p for a predicate, m for a metavariable.
func sorts(s string) string {
	l := ""
	for _, c := range []struct {
		letter string
		is     bool
	}{{"v", Variable(s)}, {"f", Function(s)}, {"p", Predicate(s)}, {"m", Meta(s)}} {
		if c.is {
			l += c.letter
		}
	}
	return l
}

// P2.1: the chapter's examples.
func TestNameExamples(t *testing.T) {
	for _, c := range []struct {
		is    func(s string) bool
		names string
		want  string
	}{
		{Variable, "x x10 u w2 t xy 1x x_", "yyyynnnn"},
		{Function, "a s next1 next all f2G u1 A", "yyynnynn"},
		{Predicate, "P Even2 p P_", "yynn"},
		{Meta, "?A ?t ? A ?u ?1", "yynnnn"},
	} {
		for i, s := range strings.Fields(c.names) {
			if got := c.is(s); got != (c.want[i] == 'y') {
				t.Errorf("%q: %v", s, got)
			}
		}
	}
}

// P2.1: which strings are names of which sort.
func TestNames(t *testing.T) {
	for _, c := range []struct{ names, sort string }{
		{"u v w x y z u0 z9 x007 x0123456789", "v"},
		{"a b s t a1 tZ fx fX0 t9a alls somes false1 nexts always0 al alL aLL", "f"},
		{"A B Y Z P1 PQ Pq Pq1 All Some False Next Always Until ALL", "p"},
		{"?A ?Z ?a ?t ?a1 ?Ab1 ?All ?all1 ?falsehood ?Until", "m"},
		{"all some false next always until", ""},
		{"?all ?some ?false ?next ?always ?until", ""},
		{"ux xX x1y y- unti until1 x_ v.", ""},
		{"? ?? ??A ?u ?x ?z1 ?1 ?_ ?A? ?A_ A? a? P_ P' a-b f. 1 1a 0 _ _a $ a$b ?a$", ""},
		{"[ ` { @ / : a[ a` a{ a@ a/ a: A[ x/ x:", ""},
		{"é aé Aé x\u0661 \u0430 P\u0391 ?é \xff a\xff A\x80 x\xb2", ""},
	} {
		for _, s := range strings.Fields(c.names) {
			if got := sorts(s); got != c.sort {
				t.Errorf("%q is of the sorts %q, not %q", s, got, c.sort)
			}
		}
	}
	for _, s := range []string{"", " ", "a ", " a", "A ", " A", "x ", " x", "?A ", " ?A", "? A", "a b", "a\x00", "\x00", "x\n", "?\x00"} {
		if got := sorts(s); got != "" {
			t.Errorf("%q is of the sorts %q", s, got)
		}
	}
}

// P2.1: each byte, at the first place and behind it.
func TestNameBytes(t *testing.T) {
	for b := range 256 {
		c := byte(b)
		lower, upper, digit := c >= 'a' && c <= 'z', c >= 'A' && c <= 'Z', c >= '0' && c <= '9'
		first := ""
		switch {
		case lower && c >= 'u':
			first = "v"
		case lower:
			first = "f"
		case upper:
			first = "p"
		}
		if got := sorts(string([]byte{c})); got != first {
			t.Errorf("the byte %d: %q", c, got)
		}
		for start, want := range map[string]bool{"x": digit, "f": lower || upper || digit, "P": lower || upper || digit, "?f": lower || upper || digit, "?P": lower || upper || digit} {
			if got := sorts(start+string([]byte{c})) != ""; got != want {
				t.Errorf("%q and the byte %d: %v", start, c, got)
			}
		}
	}
}

// P2.1: the numbers of bytes that names may have; the mark of a metavariable counts.
func TestNameLengths(t *testing.T) {
	for _, c := range []struct{ first, sort string }{{"x", "v"}, {"f", "f"}, {"P", "p"}, {"?f", "m"}, {"?P", "m"}} {
		for n := len(c.first); n < 40; n++ {
			s, want := c.first+strings.Repeat("1", n-len(c.first)), c.sort
			if n > 16 {
				want = ""
			}
			if got := sorts(s); got != want {
				t.Errorf("%q with %d bytes: %q", s, n, got)
			}
		}
		if got := sorts(c.first + strings.Repeat("1", 1<<20)); got != "" {
			t.Errorf("%q with many bytes: %q", c.first, got)
		}
	}
}
