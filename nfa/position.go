package nfa

import (
	"emendate/api"
	"emendate/regex"
)

// FromRegexes returns the position automaton of l: its run on a string yields the least index of an expression that matches the string. It returns api.ErrArg if an expression is invalid, and api.ErrLimit if the expressions have more than api.MaxStates nodes.
func FromRegexes(l []api.Regex) (api.NFA, api.Errno) {
	for _, r := range l {
		if !regex.Valid(r) {
			return api.NFA{}, api.ErrArg
		}
	}
	nodes := countNodes(l)
	if nodes > api.MaxStates {
		return api.NFA{}, api.ErrLimit
	}
	b := &builder{most: nodes + 1}
	b.addState(api.Set{})
	for i, r := range l {
		b.addExpression(i, r)
	}
	return b.automaton(), api.OK
}

// countNodes returns the number of nodes of the expressions of l, or some number above api.MaxStates if there are more than that.
func countNodes(l []api.Regex) int {
	nodes := len(l)
	for _, r := range l {
		if nodes > api.MaxStates {
			break
		}
		nodes += countNodes(r.Kids)
	}
	return nodes
}

// A part describes an expression within the list: whether it is nullable, and its first and last occurrences.
type part struct {
	nullable    bool
	first, last []int
}

// A builder builds a position automaton. State 0 and the occurrences are its states.
type builder struct {
	most   int       // at least the number of states that there will be
	sets   []api.Set // by state: the set of the arcs that lead to it
	arcs   [][]bool  // by From and To
	accept []int     // by state
}

// addState adds a state to which arcs with the set s lead, and returns its number.
func (b *builder) addState(s api.Set) int {
	b.sets = append(b.sets, s)
	b.arcs = append(b.arcs, make([]bool, b.most))
	b.accept = append(b.accept, -1)
	return len(b.sets) - 1
}

// addArcs adds an arc from each state of from to each state of to.
func (b *builder) addArcs(from, to []int) {
	for _, state := range from {
		for _, next := range to {
			b.arcs[state][next] = true
		}
	}
}

// addExpression adds the expression with the given index to the automaton.
func (b *builder) addExpression(index int, r api.Regex) {
	p := b.translate(r)
	b.addArcs([]int{0}, p.first)
	if p.nullable && b.accept[0] < 0 {
		b.accept[0] = index
	}
	for _, occurrence := range p.last {
		b.accept[occurrence] = index
	}
}

// automaton returns what has been built.
func (b *builder) automaton() api.NFA {
	n := api.NFA{States: len(b.sets), Accept: b.accept}
	for from, row := range b.arcs {
		for to, found := range row {
			if found {
				n.Arcs = append(n.Arcs, api.NFAArc{From: from, To: to, Set: b.sets[to]})
			}
		}
	}
	return n
}

// A translation adds the occurrences and the pairs of an expression of one kind to the automaton.
type translation func(b *builder, r api.Regex) part

// translations returns the translations by kind.
func translations() [api.RxStar + 1]translation {
	return [...]translation{
		api.RxNone:   (*builder).none,
		api.RxEmpty:  (*builder).empty,
		api.RxSet:    (*builder).set,
		api.RxConcat: (*builder).concat,
		api.RxUnion:  (*builder).union,
		api.RxStar:   (*builder).star,
	}
}

// translate translates a valid expression.
func (b *builder) translate(r api.Regex) part { return translations()[r.Kind](b, r) }

func (b *builder) none(api.Regex) part { return part{} }

func (b *builder) empty(api.Regex) part { return part{nullable: true} }

func (b *builder) set(r api.Regex) part {
	occurrence := b.addState(r.Set)
	return part{first: []int{occurrence}, last: []int{occurrence}}
}

func (b *builder) concat(r api.Regex) part {
	whole := part{nullable: true} // the kids so far
	for _, kid := range r.Kids {
		p := b.translate(kid)
		b.addArcs(whole.last, p.first)
		if whole.nullable {
			whole.first = append(whole.first, p.first...)
		}
		if !p.nullable {
			whole.last = nil
		}
		whole.last = append(whole.last, p.last...)
		whole.nullable = whole.nullable && p.nullable
	}
	return whole
}

func (b *builder) union(r api.Regex) part {
	var whole part // the kids so far
	for _, kid := range r.Kids {
		p := b.translate(kid)
		whole.nullable = whole.nullable || p.nullable
		whole.first = append(whole.first, p.first...)
		whole.last = append(whole.last, p.last...)
	}
	return whole
}

func (b *builder) star(r api.Regex) part {
	p := b.translate(r.Kids[0])
	b.addArcs(p.last, p.first)
	p.nullable = true
	return p
}
