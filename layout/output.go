package layout

import "emendate/api"

// An output is the list that Apply makes, with the levels that are open at its end.
type output struct {
	defs   int
	open   levels
	tokens []api.Token
}

// indent opens a level.
func (o *output) indent(depth, at int) {
	o.open.push(depth)
	o.insert(indent, at)
}

// newline ends the previous line, if there is one, and the levels to which a line of the given indentation does not belong.
func (o *output) newline(indentation, at int) {
	if len(o.tokens) > 0 {
		o.insert(newline, at)
	}
	for o.open.below() >= indentation {
		o.open.pop()
		o.insert(dedent, at)
	}
}

// insert appends a layout token.
func (o *output) insert(kind, at int) {
	o.tokens = append(o.tokens, api.Token{Kind: o.defs + kind, At: at})
}
