package lex

import (
	"regexp"
	"slices"
	"strconv"
	"strings"
	"testing"

	"lyceum/api"
)

// kinds has the letter that the tests write for each kind of tokens, at its number.
const kinds = " nmws."

// written is how the tests write a token: the letter of its kind, its place, its text.
var written = regexp.MustCompile(`^([nmws.])([0-9]+) ?(.*)$`)

// list returns tokens that are written like this: "n0 P; s2 &; n4 Q; .5".
func list(t *testing.T, s string) []Token {
	t.Helper()
	var l []Token
	for each := range strings.SplitSeq(s, ";") {
		m := written.FindStringSubmatch(strings.TrimSpace(each))
		if m == nil {
			t.Fatalf("not read: %q", each)
		}
		at, _ := strconv.Atoi(m[2])
		l = append(l, Token{Kind: uint8(strings.Index(kinds, m[1])), Text: m[3], At: at})
	}
	return l
}

// checkLex tests what Lex returns for a text.
func checkLex(t *testing.T, s string, want []Token, place int, e api.Errno) {
	t.Helper()
	l, at, err := Lex(s)
	if err != e || at != place || !slices.Equal(l, want) {
		t.Errorf("%.60q: %v, %d, %d, not %v, %d, %d", s, l, at, err, want, place, e)
	}
}

// P4.1: the chapter's examples, and tokens of each sort.
func TestLex(t *testing.T) {
	for _, c := range []struct{ text, want string }{
		{"all x (P(x)->~Q)", "w0 all; n4 x; s6 (; n7 P; s8 (; n9 x; s10 ); s11 ->; s13 ~; n14 Q; s15 ); .16"},
		{"[]P<->[ ]", "s0 []; n2 P; s3 <->; s6 [; s8 ]; .9"},
		{"?A[?t/x]", "m0 ?A; s2 [; m3 ?t; s5 /; n6 x; s7 ]; .8"},
		{"", ".0"},
		{" ", ".1"},
		{" \t\r\n ", ".5"},
		{"P", "n0 P; .1"},
		{"P  ", "n0 P; .3"},
		{"\n\nP\t", "n2 P; .4"},
		{"P&Q|R", "n0 P; s1 &; n2 Q; s3 |; n4 R; .5"},
		{"f(a,x10)", "n0 f; s1 (; n2 a; s3 ,; n4 x10; s7 ); .8"},
		{"all some false next always until", "w0 all; w4 some; w9 false; w15 next; w20 always; w27 until; .32"},
		{"alls All all1 falsenext ALWAYS Until", "n0 alls; n5 All; n9 all1; n14 falsenext; n24 ALWAYS; n31 Until; .36"},
		{"all?A~some", "w0 all; m3 ?A; s5 ~; w6 some; .10"},
		{"?A?t?All?a1", "m0 ?A; m2 ?t; m4 ?All; m8 ?a1; .11"},
		{"P?A", "n0 P; m1 ?A; .3"},
		{"( ) , ~ & | / -> <-> [] <> [ ]", "s0 (; s2 ); s4 ,; s6 ~; s8 &; s10 |; s12 /; s14 ->; s17 <->; s21 []; s24 <>; s27 [; s29 ]; .30"},
		{"(),~&|/-><->[]<>[]][", "s0 (; s1 ); s2 ,; s3 ~; s4 &; s5 |; s6 /; s7 ->; s9 <->; s12 []; s14 <>; s16 []; s18 ]; s19 [; .20"},
		{"[[]]", "s0 [; s1 []; s3 ]; .4"},
		{"<><->->", "s0 <>; s2 <->; s5 ->; .7"},
		{"~~[]<>P", "s0 ~; s1 ~; s2 []; s4 <>; n6 P; .7"},
		{"->->", "s0 ->; s2 ->; .4"},
	} {
		checkLex(t, c.text, list(t, c.want), 0, api.OK)
	}
}

// P4.1: the chapter's examples of errors, and others; of several errors, the first one in the text counts.
func TestLexErrors(t *testing.T) {
	for _, c := range []struct {
		text  string
		place int
		e     api.Errno
	}{
		{"P & xy", 4, ErrName},
		{"P - Q", 2, ErrChar},
		{"<", 0, ErrChar},
		{"?", 0, ErrName},
		{"7", 0, ErrChar},
		{"-", 0, ErrChar},
		{">", 0, ErrChar},
		{"P >", 2, ErrChar},
		{"< >", 0, ErrChar},
		{"- >", 0, ErrChar},
		{"<-", 0, ErrChar},
		{"<- >", 0, ErrChar},
		{"<--", 0, ErrChar},
		{"--> ", 0, ErrChar},
		{"->>", 2, ErrChar},
		{"<>>", 2, ErrChar},
		{"P <<-> Q", 2, ErrChar},
		{"_", 0, ErrChar},
		{"P_", 1, ErrChar},
		{"?A_", 2, ErrChar},
		{"a.b", 1, ErrChar},
		{"P 1", 2, ErrChar},
		{"1P", 0, ErrChar},
		{"(1)", 1, ErrChar},
		{"é", 0, ErrChar},
		{"Pé", 1, ErrChar},
		{"P ∧ Q", 2, ErrChar},
		{"P\u00a0Q", 1, ErrChar},
		{"P\vQ", 1, ErrChar},
		{"P\fQ", 1, ErrChar},
		{"P\x00", 1, ErrChar},
		{"xy", 0, ErrName},
		{"x1y", 0, ErrName},
		{"uU", 0, ErrName},
		{" \n zall", 3, ErrName},
		{"until0", 0, ErrName},
		{"(x, until x, untill, uP", 13, ErrName},
		{"P & xy1", 4, ErrName},
		{"??A", 0, ErrName},
		{"?A??A", 2, ErrName},
		{"? A", 0, ErrName},
		{"?1", 0, ErrName},
		{"?x", 0, ErrName},
		{"?u1", 0, ErrName},
		{"?all", 0, ErrName},
		{"?until & ?A", 0, ErrName},
		{"?", 0, ErrName},
		{"P ?", 2, ErrName},
		{"xy 7", 0, ErrName},
		{"7 xy", 0, ErrChar},
		{"P (xy - ?)", 3, ErrName},
		{"P (- xy ?)", 3, ErrChar},
		{"P ? -", 2, ErrName},
	} {
		checkLex(t, c.text, nil, c.place, c.e)
	}
}

// P4.1: each byte alone, behind a name, and behind a mark.
func TestLexBytes(t *testing.T) {
	for i := range 256 {
		b := string([]byte{byte(i)})
		lower, upper, digit := b >= "a" && b <= "z", b >= "A" && b <= "Z", b >= "0" && b <= "9"
		switch {
		case strings.Contains(" \t\n\r", b):
			checkLex(t, b, list(t, ".1"), 0, api.OK)
			checkLex(t, "P"+b, list(t, "n0 P; .2"), 0, api.OK)
			checkLex(t, "?A"+b, list(t, "m0 ?A; .3"), 0, api.OK)
		case strings.Contains("(),~&|/[]", b):
			checkLex(t, b, list(t, "s0 "+b+"; .1"), 0, api.OK)
			checkLex(t, "P"+b, list(t, "n0 P; s1 "+b+"; .2"), 0, api.OK)
			checkLex(t, "?A"+b, list(t, "m0 ?A; s2 "+b+"; .3"), 0, api.OK)
		case lower || upper || digit:
			if digit {
				checkLex(t, b, nil, 0, ErrChar)
			} else {
				checkLex(t, b, list(t, "n0 "+b+"; .1"), 0, api.OK)
			}
			checkLex(t, "P"+b, list(t, "n0 P"+b+"; .2"), 0, api.OK)
			checkLex(t, "?A"+b, list(t, "m0 ?A"+b+"; .3"), 0, api.OK)
		case b == "?":
			checkLex(t, b, nil, 0, ErrName)
			checkLex(t, "P"+b, nil, 1, ErrName)
			checkLex(t, "?A"+b, nil, 2, ErrName)
		default:
			checkLex(t, b, nil, 0, ErrChar)
			checkLex(t, "P"+b, nil, 1, ErrChar)
			checkLex(t, "?A"+b, nil, 2, ErrChar)
		}
	}
}

// P4.1: how many bytes names may have, and texts.
func TestLexLimits(t *testing.T) {
	for _, first := range []string{"x", "f", "P", "?f", "?P"} {
		s := first + strings.Repeat("1", 16-len(first))
		kind := TokName
		if first[0] == '?' {
			kind = TokMeta
		}
		checkLex(t, "~"+s, []Token{{TokSign, "~", 0}, {kind, s, 1}, {TokEnd, "", 17}}, 0, api.OK)
		checkLex(t, "~"+s+"1", nil, 1, ErrName)
		checkLex(t, first+strings.Repeat("1", 1<<13), nil, 0, ErrName)
	}
	blanks := strings.Repeat(" ", 1<<14)
	checkLex(t, blanks, list(t, ".16384"), 0, api.OK)
	checkLex(t, blanks[1:]+"P", list(t, "n16383 P; .16384"), 0, api.OK)
	checkLex(t, blanks[1:]+"-", nil, 16383, ErrChar)
	checkLex(t, blanks[1:]+"?", nil, 16383, ErrName)
	checkLex(t, blanks+"P", nil, 0, api.ErrLong)
	checkLex(t, blanks+" ", nil, 0, api.ErrLong)
	checkLex(t, "-"+blanks, nil, 0, api.ErrLong)
	checkLex(t, "xy"+blanks, nil, 0, api.ErrLong)
	checkLex(t, strings.Repeat("~", 1<<20), nil, 0, api.ErrLong)
	if l, _, e := Lex(strings.Repeat("~", 1<<14)); len(l) != 1<<14+1 || e != api.OK {
		t.Errorf("a text of tokens alone: %d tokens, %d", len(l), e)
	}
}

// What tokens look like, said a second time: with the blanks ahead of them, and longer signs first.
var (
	anyToken = regexp.MustCompile(`^[ \t\n\r]*([a-zA-Z][a-zA-Z0-9]*|\?[a-zA-Z0-9]*|<->|->|\[\]|<>|[()~,&|/\[\]]|$)`)
	aWord    = regexp.MustCompile(`^(all|some|false|next|always|until)$`)
	aName    = regexp.MustCompile(`^([u-z][0-9]*|[a-tA-Z][a-zA-Z0-9]*)$`)
	aMeta    = regexp.MustCompile(`^\?[a-tA-Z][a-zA-Z0-9]*$`)
)

// model is Lex by these expressions, for texts that are not too long.
func model(s string) ([]Token, int, api.Errno) {
	var l []Token
	for at := 0; ; {
		m := anyToken.FindStringSubmatchIndex(s[at:])
		if m == nil {
			return nil, at + len(s[at:]) - len(strings.TrimLeft(s[at:], " \t\n\r")), ErrChar
		}
		x := Token{Text: s[at+m[2] : at+m[3]], At: at + m[2]}
		switch {
		case x.Text == "":
			return append(l, Token{Kind: TokEnd, At: len(s)}), 0, api.OK
		case aWord.MatchString(x.Text):
			x.Kind = TokWord
		case len(x.Text) <= 16 && aName.MatchString(x.Text):
			x.Kind = TokName
		case len(x.Text) <= 16 && aMeta.MatchString(x.Text) && !aWord.MatchString(x.Text[1:]):
			x.Kind = TokMeta
		case strings.Contains("()~,&|/<->[]<>", x.Text):
			x.Kind = TokSign
		default:
			return nil, x.At, ErrName
		}
		l = append(l, x)
		at += m[3]
	}
}

// P4.1: all short texts of some bytes.
func TestLexOfAllShortTexts(t *testing.T) {
	const bytes = "axP1?<->[] _"
	for n, count := 0, 1; n <= 4; n, count = n+1, count*len(bytes) {
		for i := range count {
			s := make([]byte, n)
			for k := range s {
				s[k] = bytes[i%len(bytes)]
				i /= len(bytes)
			}
			want, at, e := model(string(s))
			checkLex(t, string(s), want, at, e)
		}
	}
}

// P4.1: drawn texts, of which some are right and some are not.
func TestLexOfDrawnTexts(t *testing.T) {
	d := fixed(1)
	count := map[api.Errno]int{}
	for range 20000 {
		s := d.text()
		want, at, e := model(s)
		checkLex(t, s, want, at, e)
		count[e]++
	}
	if count[api.OK] < 1000 || count[ErrChar] < 1000 || count[ErrName] < 1000 {
		t.Errorf("results: %v", count)
	}
}

// P4.1: tokens of one result are not those of another.
func TestLexMemory(t *testing.T) {
	const text = "P & ?A"
	a, _, _ := Lex(text)
	b, _, _ := Lex(text)
	clear(a[:cap(a)])
	if want := list(t, "n0 P; s2 &; m4 ?A; .6"); !slices.Equal(b, want) {
		t.Errorf("%v", b)
	}
	checkLex(t, text, b, 0, api.OK)
}
