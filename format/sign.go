package format

import "lyceum/api"

// Strengths that stand for the ends of their order.
const (
	weakest   = 1
	strongest = 6
)

// sign is how an operator is written: its sign or word, what is between that and a part behind it if there is one part only, its strength, and whether it is grouped from the right.
type sign struct {
	text, gap string
	strength  int
	right     bool
}

// signs has the sign of each Op; what has no parts has none, and is as strong as what has one.
var signs = [api.OpInst + 1]sign{
	api.OpAtom:   {strength: strongest},
	api.OpFalse:  {text: "false", strength: strongest},
	api.OpNot:    {text: "~", strength: strongest},
	api.OpAnd:    {text: "&", strength: 5},
	api.OpOr:     {text: "|", strength: 4},
	api.OpImp:    {text: "->", strength: 2, right: true},
	api.OpIff:    {text: "<->", strength: weakest},
	api.OpAll:    {text: "all", gap: " ", strength: strongest},
	api.OpSome:   {text: "some", gap: " ", strength: strongest},
	api.OpBox:    {text: "[]", strength: strongest},
	api.OpDia:    {text: "<>", strength: strongest},
	api.OpNext:   {text: "next", gap: " ", strength: strongest},
	api.OpAlways: {text: "always", gap: " ", strength: strongest},
	api.OpUntil:  {text: "until", strength: 3, right: true},
	api.OpMeta:   {strength: strongest},
	api.OpInst:   {strength: strongest},
}

// sides tells how strong the two parts of an operator must be to stand without brackets: one that is just as strong may do so on the side from which the operator is grouped.
func (s sign) sides() (left, right int) {
	if s.right {
		return s.strength + 1, s.strength
	}
	return s.strength, s.strength + 1
}
