package format

import (
	"iter"
	"slices"

	"lyceum/api"
)

// What is between the items of a list, and between those of one whose text has no spaces.
const (
	listed = ", "
	packed = ","
)

// joined adds the texts of items to a text, with another text between them.
func joined[T any](b []byte, items iter.Seq[T], between string, add func(b []byte, item T) []byte) []byte {
	first := true
	for item := range items {
		if !first {
			b = append(b, between...)
		}
		first = false
		b = add(b, item)
	}
	return b
}

// addString adds a string to a text.
func addString(b []byte, s string) []byte { return append(b, s...) }

// addTerm adds a term to a text; between is what parts its arguments.
func addTerm(b []byte, t api.Term, between string) []byte {
	b = append(b, t.Name...)
	if len(t.Args) == 0 {
		return b
	}
	add := func(b []byte, arg api.Term) []byte { return addTerm(b, arg, between) }
	return append(joined(append(b, '('), slices.Values(t.Args), between, add), ')')
}

// partAdder adds a part of a formula to a text; need is how strong it must be to stand there without brackets.
type partAdder func(b []byte, part api.Form, need int) []byte

// bracketing returns a closure that puts parts in brackets that are weaker than they need to be, or weaker than least.
func bracketing(least int) partAdder {
	var add partAdder
	add = func(b []byte, part api.Form, need int) []byte {
		if signs[part.Op].strength >= max(need, least) {
			return addForm(b, part, add)
		}
		return append(addForm(append(b, '('), part, add), ')')
	}
	return add
}

// addForm adds a formula to a text, and its parts by part.
func addForm(b []byte, f api.Form, part partAdder) []byte {
	s := signs[f.Op]
	switch len(f.Sub) {
	case 0:
		return append(b, basic(f, listed)...)
	case 1:
		b = joined(b, slices.Values(heads(f)), " ", addString)
		return part(append(b, s.gap...), f.Sub[0], strongest)
	}
	left, right := s.sides()
	b = part(b, f.Sub[0], left)
	b = append(b, " "+s.text+" "...)
	return part(b, f.Sub[1], right)
}

// basic is the text of a formula without parts; between is what parts its arguments.
func basic(f api.Form, between string) string {
	switch f.Op {
	case api.OpAtom:
		return string(addTerm(nil, api.Term{Name: f.Name, Args: f.Args}, between))
	case api.OpInst:
		return f.Name + "[" + f.Args[1].Name + "/" + f.Args[0].Name + "]"
	case api.OpFalse:
		return signs[f.Op].text
	}
	return f.Name
}

// heads are the words that stand ahead of the parts of a formula in its prefix text; if it has no parts, its only word.
func heads(f api.Form) []string {
	if len(f.Sub) == 0 {
		return []string{basic(f, packed)}
	}
	l := []string{signs[f.Op].text}
	if f.Name != "" {
		l = append(l, f.Name)
	}
	return l
}

// words yields the words of the prefix text of a formula.
func words(f api.Form) iter.Seq[string] {
	return func(yield func(word string) bool) { yieldWords(f, yield) }
}

// yieldWords yields the words of a formula, and reports whether to go on.
func yieldWords(f api.Form, yield func(word string) bool) bool {
	for _, word := range heads(f) {
		if !yield(word) {
			return false
		}
	}
	for _, part := range f.Sub {
		if !yieldWords(part, yield) {
			return false
		}
	}
	return true
}
