package lex

import (
	"math/rand/v2"
	"slices"
	"strings"
	"testing"

	"lyceum/api"
)

// draws draws texts.
type draws struct{ *rand.Rand }

// fixed returns draws that are the same in each run.
func fixed(n uint64) draws { return draws{rand.New(rand.NewPCG(4, n))} }

// pieces are tokens of all sorts.
var pieces = strings.Fields("all some false next always until P Q1 Even2 f a t9 next1 x y10 u ?A ?t ?All ?a1 ( ) , ~ & | / -> <-> [] <> [ ]")

// of draws one of some strings.
func (d draws) of(l []string) string { return l[d.IntN(len(l))] }

// blanks draws blanks, at least so many.
func (d draws) blanks(least int) string {
	s := ""
	for range least + d.IntN(3) {
		s += d.of([]string{" ", "\t", "\n", "\r"})
	}
	return s
}

// text draws a text: tokens with few blanks between them, and sometimes what is none.
func (d draws) text() string {
	s := ""
	for range d.IntN(12) {
		s += d.of(pieces)
		if d.IntN(3) > 0 {
			s += d.of([]string{" ", "  ", "\t", "\n", "\r"})
		}
		if d.IntN(12) == 0 {
			s += d.of([]string{"-", "<", "xy", "?", "?x", "?all", "7", "_", "\x00", "\v", "é", "P1234567890123456"})
		}
	}
	return s
}

// apart reports whether two texts of tokens are not other tokens if they stand directly behind each other.
func apart(a, b string) bool {
	name := func(c byte) bool { return c != '?' && !strings.Contains("()~,&|/<->[]", string(c)) }
	return !(name(a[len(a)-1]) && name(b[0])) && !(a == "[" && b == "]")
}

// unplaced returns tokens without their places.
func unplaced(l []Token) []Token {
	l = slices.Clone(l)
	for i := range l {
		l[i].At = 0
	}
	return l
}

// P4.2: the text of any tokens: those that are ends are left out, and those alone.
func TestJoin(t *testing.T) {
	for _, c := range []struct {
		l    []Token
		want string
	}{
		{nil, ""},
		{[]Token{}, ""},
		{[]Token{{TokEnd, "", 0}}, ""},
		{[]Token{{TokName, "P", 0}}, "P"},
		{[]Token{{TokName, "P", 0}, {TokEnd, "", 1}}, "P"},
		{[]Token{{TokName, "P", 7}, {TokSign, "->", 3}, {TokMeta, "?A", 3}, {TokWord, "until", -1}, {TokName, "x", 0}}, "P -> ?A until x"},
		{[]Token{{TokEnd, "", 0}, {TokName, "P", 0}, {TokEnd, "", 0}, {TokEnd, "end", 0}, {TokName, "Q", 0}, {TokEnd, " ", 0}}, "P Q"},
		{[]Token{{TokEnd, "P", 0}}, ""},
		{[]Token{{TokName, "", 0}}, ""},
		{[]Token{{TokName, "", 0}, {TokName, "", 0}}, " "},
		{[]Token{{TokName, "", 0}, {TokEnd, "", 0}, {TokSign, "", 0}, {TokName, "P", 0}, {0, "", 0}, {TokEnd, "", 0}}, "  P "},
		{[]Token{{0, "a", 0}, {6, "b", 0}, {255, "c", 0}}, "a b c"},
		{[]Token{{TokName, " two words ", 0}, {TokSign, "\x00\xff\n", 0}, {TokName, "é", 0}}, " two words  \x00\xff\n é"},
	} {
		before := slices.Clone(c.l)
		if got := Join(c.l); got != c.want {
			t.Errorf("%v: %q, not %q", c.l, got, c.want)
		}
		if !slices.Equal(c.l, before) {
			t.Errorf("%v was changed", before)
		}
	}
	long := strings.Repeat("long", 1<<18)
	if got := Join([]Token{{TokName, long, 0}, {TokName, long, 0}}); got != long+" "+long {
		t.Error("long tokens")
	}
}

// P4.2: what is in the spare capacity of a list is not told, and stays as it is.
func TestJoinSpare(t *testing.T) {
	l := []Token{{TokName, "P", 0}, {TokEnd, "", 1}, {TokName, "Q", 2}}
	if got := Join(l[:1]); got != "P" {
		t.Errorf("%q", got)
	}
	if l[1] != (Token{TokEnd, "", 1}) || l[2] != (Token{TokName, "Q", 2}) {
		t.Errorf("%v", l)
	}
}

// P4.2: the six words, and what is not one of them.
func TestWord(t *testing.T) {
	for _, s := range []string{"all", "some", "false", "next", "always", "until"} {
		if !Word(s) {
			t.Errorf("%q is none", s)
		}
		for _, other := range []string{s + " ", " " + s, s + "1", "?" + s, s[1:], s[:len(s)-1], strings.ToUpper(s), strings.ToUpper(s[:1]) + s[1:], s + s, s + "\x00"} {
			if Word(other) {
				t.Errorf("%q is one", other)
			}
		}
	}
	for _, s := range []string{"", " ", "true", "not", "and", "P", "x", "~", "->", "?A", "\xff", strings.Repeat("all", 1<<18)} {
		if Word(s) {
			t.Errorf("%.20q is one", s)
		}
	}
}

// P4.3: each token stands in the text at its place, with nothing but blanks between them.
func TestPlaces(t *testing.T) {
	d := fixed(2)
	for range 5000 {
		s := d.text()
		l, _, e := Lex(s)
		if e != api.OK {
			continue
		}
		behind := 0
		for _, x := range l {
			if x.At < behind || s[x.At:x.At+len(x.Text)] != x.Text || strings.Trim(s[behind:x.At], " \t\n\r") != "" {
				t.Fatalf("%q: %v", s, l)
			}
			behind = x.At + len(x.Text)
		}
		if end := l[len(l)-1]; end != (Token{TokEnd, "", len(s)}) || slices.ContainsFunc(l[:len(l)-1], func(x Token) bool { return x.Kind == TokEnd || x.Text == "" }) {
			t.Fatalf("%q: %v", s, l)
		}
	}
}

// P4.3: the tokens of the text of tokens are the same, but for their places.
func TestJoinedTokens(t *testing.T) {
	d := fixed(3)
	count := 0
	for range 5000 {
		s := d.text()
		l, _, e := Lex(s)
		if e != api.OK {
			continue
		}
		count++
		joined := Join(l)
		again, _, e := Lex(joined)
		if e != api.OK || !slices.Equal(unplaced(again), unplaced(l)) || Join(again) != joined {
			t.Fatalf("%q: %v, %d, not %v", s, again, e, l)
		}
	}
	if count < 500 {
		t.Errorf("%d texts were right", count)
	}
}

// P4.3: texts that differ in blanks alone, between tokens, have the same tokens, but for their places.
func TestBlanks(t *testing.T) {
	d := fixed(4)
	for range 5000 {
		var texts []string
		for range d.IntN(12) {
			texts = append(texts, d.of(pieces))
		}
		a, b := d.blanks(0), d.blanks(0)
		for i, s := range texts {
			least := 1
			if i+1 == len(texts) || apart(s, texts[i+1]) {
				least = 0
			}
			a += s + d.blanks(least)
			b += s + d.blanks(least)
		}
		k, _, e := Lex(a)
		l, _, f := Lex(b)
		if e != api.OK || f != api.OK || !slices.Equal(unplaced(k), unplaced(l)) || len(l) != len(texts)+1 || Join(l) != strings.Join(texts, " ") {
			t.Fatalf("%q and %q: %v, %d and %v, %d", a, b, k, e, l, f)
		}
	}
}
