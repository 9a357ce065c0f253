package syntax

import "lyceum/api"

// mark is what a metavariable begins with.
const mark = '?'

// Variable reports whether a string is a variable.
func Variable(s string) bool { return spelling('u', 'z', isDigit)(s) }

// Function reports whether a string is a function.
func Function(s string) bool { return spelling('a', 't', isLetterOrDigit)(s) }

// Predicate reports whether a string is a predicate.
func Predicate(s string) bool { return spelling('A', 'Z', isLetterOrDigit)(s) }

// Meta reports whether a string is a metavariable.
func Meta(s string) bool { return formMeta(s) || termMeta(s) }

// formMeta reports whether a string is a metavariable of formulas.
func formMeta(s string) bool { return marked(s, Predicate) }

// termMeta reports whether a string is a metavariable of terms.
func termMeta(s string) bool { return marked(s, Function) }

// marked reports whether a string is a question mark and a name; the mark counts as one of the bytes that there may be.
func marked(s string, name func(s string) bool) bool {
	return s != "" && s[0] == mark && len(s) <= api.MaxName && name(s[1:])
}

// spelling returns a closure that reports whether a string is a name whose first byte is from one to another, and whose other bytes are as rest says.
func spelling(from, to byte, rest func(c byte) bool) func(s string) bool {
	return func(s string) bool {
		if s == "" || len(s) > api.MaxName || s[0] < from || s[0] > to || isWord(s) {
			return false
		}
		for i := 1; i < len(s); i++ {
			if !rest(s[i]) {
				return false
			}
		}
		return true
	}
}

// isWord reports whether a string is a word of formulas, which is no name.
func isWord(s string) bool {
	switch s {
	case "all", "some", "false", "next", "always", "until":
		return true
	}
	return false
}

func isDigit(c byte) bool { return c >= '0' && c <= '9' }

func isLetterOrDigit(c byte) bool {
	return c >= 'a' && c <= 'z' || c >= 'A' && c <= 'Z' || isDigit(c)
}
