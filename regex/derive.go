package regex

import (
	"slices"

	"emendate/api"
	"emendate/byteset"
)

// Derive returns an expression that matches the strings t such that r matches b followed by t. It requires a valid expression or one that Derive returned.
//
// The result is the union of the partial derivatives: what may remain to be matched behind each set that matches b. They are concatenations of expressions that occur in r, and equal ones are kept once; then there are never more of them than sets in the first expression, however often the result is derived again.
func Derive(r api.Regex, b byte) api.Regex {
	if !matchable(r) {
		return api.Regex{Kind: api.RxNone}
	}
	d := deriver{b: b, numbers: numbers{}, found: map[int]bool{}}
	d.derive(r, nil)
	return join(api.RxUnion, api.RxNone, d.partials)
}

// clone returns r in memory of its own, which no two of its parts share.
func clone(r api.Regex) api.Regex {
	r.Kids = slices.Clone(r.Kids)
	for i, kid := range r.Kids {
		r.Kids[i] = clone(kid)
	}
	return r
}

// join returns the expression of the given kind with the given kids, or the only kid, or, without kids, the expression of the kind none.
func join(kind, none int, kids []api.Regex) api.Regex {
	switch len(kids) {
	case 0:
		return api.Regex{Kind: none}
	case 1:
		return kids[0]
	}
	return api.Regex{Kind: kind, Kids: kids}
}

// A list contains expressions that remain to be matched one after another; nil is the empty list.
type list struct {
	number int
	first  api.Regex
	rest   *list
}

// id returns the number of l.
func (l *list) id() int {
	if l == nil {
		return 0
	}
	return l.number
}

// expr returns the concatenation of the expressions of l, in memory of its own.
func (l *list) expr() api.Regex {
	var kids []api.Regex
	for ; l != nil; l = l.rest {
		kids = append(kids, clone(l.first))
	}
	return join(api.RxConcat, api.RxEmpty, kids)
}

// A deriver collects the partial derivatives by a byte. Lists are compared by their numbers, since the expressions in them may be large.
type deriver struct {
	b        byte
	numbers  numbers
	found    map[int]bool // the numbers of the lists of the partial derivatives
	partials []api.Regex
}

// derive collects the partial derivatives of the concatenation of r and the list behind it.
func (d *deriver) derive(r api.Regex, behind *list) {
	switch r.Kind {
	case api.RxSet:
		if byteset.Has(r.Set, d.b) {
			d.add(behind)
		}
	case api.RxConcat:
		d.deriveConcat(r.Kids, behind)
	case api.RxUnion:
		for _, kid := range r.Kids {
			d.derive(kid, behind)
		}
	case api.RxStar:
		d.derive(r.Kids[0], d.put(r, behind))
	}
}

// deriveConcat derives all kids up to the first one that is not nullable.
func (d *deriver) deriveConcat(kids []api.Regex, behind *list) {
	last := 0
	for last < len(kids)-1 && nullable(kids[last]) {
		last++
	}
	for i, kid := range slices.Backward(kids) {
		if i <= last {
			d.derive(kid, behind)
		}
		behind = d.put(kid, behind)
	}
}

// put returns the list of r and the expressions behind it.
func (d *deriver) put(r api.Regex, behind *list) *list {
	return &list{d.numbers.listed(d.numbers.of(r), behind.id()), r, behind}
}

// add adds the concatenation of l to the partial derivatives, unless it is one already.
func (d *deriver) add(l *list) {
	if !d.found[l.id()] {
		d.found[l.id()] = true
		d.partials = append(d.partials, l.expr())
	}
}

// A shape is what an expression consists of, with the list of its kids as its rest, or, if it has no kind, what a list consists of. First and rest are numbers.
type shape struct {
	kind        int
	set         api.Set
	first, rest int
}

// numbers gives expressions and lists numbers from 1 on, the same one only to equal ones. The empty list has the number 0.
type numbers map[shape]int

// of returns the number of an expression.
func (n numbers) of(r api.Regex) int {
	kids := 0
	for _, kid := range slices.Backward(r.Kids) {
		kids = n.listed(n.of(kid), kids)
	}
	return n.get(shape{kind: r.Kind, set: r.Set, rest: kids})
}

// listed returns the number of the list that consists of an expression and another list.
func (n numbers) listed(first, rest int) int { return n.get(shape{first: first, rest: rest}) }

func (n numbers) get(s shape) int {
	number, known := n[s]
	if !known {
		number = len(n) + 1
		n[s] = number
	}
	return number
}
