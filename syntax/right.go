package syntax

import "lyceum/api"

// What a Name must be.
const (
	unnamed    uint8 = iota // there is none
	aPredicate              // of an atom
	aVariable               // of a quantifier
	aFormMeta               // of what only schemas have
)

// row is what the fields of a formula must be: its Name, how many Args there are at most, and how many Sub there are.
type row struct {
	name      uint8
	args, sub int
}

// rows has the row of each Op; there is none for 0.
var rows = [api.OpInst + 1]row{
	api.OpAtom:   {name: aPredicate, args: MaxArgs},
	api.OpFalse:  {},
	api.OpNot:    {sub: 1},
	api.OpAnd:    {sub: 2},
	api.OpOr:     {sub: 2},
	api.OpImp:    {sub: 2},
	api.OpIff:    {sub: 2},
	api.OpAll:    {name: aVariable, sub: 1},
	api.OpSome:   {name: aVariable, sub: 1},
	api.OpBox:    {sub: 1},
	api.OpDia:    {sub: 1},
	api.OpNext:   {sub: 1},
	api.OpAlways: {sub: 1},
	api.OpUntil:  {sub: 2},
	api.OpMeta:   {name: aFormMeta},
	api.OpInst:   {name: aFormMeta, args: 2},
}

// Term reports whether a term is right.
func Term(t api.Term) bool { return rightTerm(t, false) }

// Right reports whether a formula is right.
func Right(f api.Form) bool { return fits(f) && rightForm(f, api.OpUntil) }

// Schema reports whether a schema is right.
func Schema(f api.Form) bool { return fits(f) && rightForm(f, api.OpInst) }

// fits reports whether a formula is within the limits. It counts nodes first, and not far beyond their limit, so the rest is looked at only if it is small.
func fits(f api.Form) bool { return few(f, api.MaxNodes) && Depth(f) <= api.MaxDepth }

// rightForm reports whether a formula of any size is right, if last is the last Op that it may have: those behind OpUntil, and metavariables of terms, are for schemas.
func rightForm(f api.Form, last uint8) bool {
	if f.Op < api.OpAtom || f.Op > last {
		return false
	}
	r := rows[f.Op]
	if !rightName(f.Name, r.name) || len(f.Args) > r.args || len(f.Sub) != r.sub {
		return false
	}
	if f.Op == api.OpInst && !instance(f.Args) {
		return false
	}
	for _, t := range f.Args {
		if !rightTerm(t, last > api.OpUntil) {
			return false
		}
	}
	for _, part := range f.Sub {
		if !rightForm(part, last) {
			return false
		}
	}
	return true
}

// rightName reports whether a Name is what a row asks for.
func rightName(s string, name uint8) bool {
	switch name {
	case aPredicate:
		return Predicate(s)
	case aVariable:
		return Variable(s)
	case aFormMeta:
		return formMeta(s)
	}
	return s == ""
}

// rightTerm reports whether a term is right; in a schema, it may be a metavariable.
func rightTerm(t api.Term, schema bool) bool {
	if t.Var {
		return len(t.Args) == 0 && (Variable(t.Name) || schema && termMeta(t.Name))
	}
	if !Function(t.Name) || len(t.Args) > MaxArgs {
		return false
	}
	for _, arg := range t.Args {
		if !rightTerm(arg, schema) {
			return false
		}
	}
	return true
}

// instance reports whether the Args of an OpInst are called as a variable and a metavariable of terms. That they are Var, without Args, need not be asked: right terms with these names are.
func instance(args []api.Term) bool {
	return len(args) == 2 && Variable(args[0].Name) && termMeta(args[1].Name)
}
