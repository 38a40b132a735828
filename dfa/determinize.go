package dfa

import (
	"emendate/api"
	"emendate/byteset"
	"emendate/nfa"
)

// Determinize returns a deterministic automaton whose runs have the results of those of n. It returns api.ErrArg if n is not valid, and api.ErrLimit if the subset construction reaches more than api.MaxStates nonempty sets.
func Determinize(n api.NFA) (api.DFA, api.Errno) {
	if !nfa.Valid(n) {
		return api.DFA{}, api.ErrArg
	}
	c := newConstruction(n)
	c.number(c.closures[n.Start])
	d := api.DFA{Class: c.classes}
	// The sets become more while the loop runs, so that the loop visits those that it finds.
	for i := 0; i < len(c.sets); i++ {
		d.Next = append(d.Next, c.row(c.sets[i]))
		d.Accept = append(d.Accept, leastAccepted(n, c.sets[i]))
		if len(c.sets) > api.MaxStates {
			return api.DFA{}, api.ErrLimit
		}
	}
	return d, api.OK
}

// A construction is a subset construction. The states of its result are nonempty sets of states of the argument.
type construction struct {
	classes  []int        // by byte: its class
	closures []stateSet   // by state of the argument
	moves    [][]stateSet // by state of the argument and class: where its arcs on the bytes of the class lead
	sets     []stateSet   // the sets found so far
	numbers  map[stateSet]int
}

func newConstruction(n api.NFA) *construction {
	c := &construction{classes: classesOf(n), closures: closuresOf(n), moves: make([][]stateSet, n.States), numbers: map[stateSet]int{}}
	bytes := firsts(c.classes)
	for state := range c.moves {
		c.moves[state] = make([]stateSet, len(bytes))
	}
	for _, a := range n.Arcs {
		for class, b := range bytes {
			if byteset.Has(a.Set, byte(b)) { // which the set of an epsilon transition does not contain
				c.moves[a.From][class].add(a.To)
			}
		}
	}
	return c
}

// classesOf returns the class of each byte: those of one class are in the sets of the same arcs.
func classesOf(n api.NFA) []int {
	var sets []api.Set // each of them once, as there may be many more arcs
	known := map[api.Set]bool{}
	for _, a := range n.Arcs {
		if !known[a.Set] {
			known[a.Set] = true
			sets = append(sets, a.Set)
		}
	}
	return byteset.Classes(sets)
}

// closuresOf returns the closure of each state, by Warshall's algorithm: the number of epsilon transitions hardly counts.
func closuresOf(n api.NFA) []stateSet {
	l := make([]stateSet, n.States)
	for state := range l {
		l[state].add(state)
	}
	for _, a := range n.Arcs {
		if a.Epsilon {
			l[a.From].add(a.To)
		}
	}
	for between := range l {
		for state := range l {
			if l[state].has(between) {
				l[state].addAll(&l[between])
			}
		}
	}
	return l
}

// number returns the number of a set, which is none if the set is empty. It adds the set if it is new.
func (c *construction) number(s stateSet) int {
	if s == (stateSet{}) {
		return none
	}
	number, found := c.numbers[s]
	if !found {
		number = len(c.sets)
		c.numbers[s] = number
		c.sets = append(c.sets, s)
	}
	return number
}

// row returns the successors of the set s by class.
func (c *construction) row(s stateSet) []int {
	row := make([]int, len(c.moves[0]))
	for class := range row {
		row[class] = c.number(c.step(s, class))
	}
	return row
}

// step returns the closure of the states to which arcs on the bytes of a class lead from the states of s.
func (c *construction) step(s stateSet, class int) stateSet {
	var targets, closure stateSet
	for state := range s.all() {
		targets.addAll(&c.moves[state][class])
	}
	for state := range targets.all() {
		closure.addAll(&c.closures[state])
	}
	return closure
}

// leastAccepted returns the least number that a state of s accepts in n, or none.
func leastAccepted(n api.NFA, s stateSet) int {
	least := none
	for state := range s.all() {
		if number := n.Accept[state]; number != none && (least == none || number < least) {
			least = number
		}
	}
	return least
}
