package nfa

import (
	"cmp"
	"slices"

	"emendate/api"
	"emendate/byteset"
)

// A machine simulates a valid automaton.
type machine struct {
	arcs   [][]api.NFAArc    // by the state that they leave
	silent [][]int           // by state: where its epsilon transitions lead
	known  map[move]stateSet // the targets found so far: a dense automaton has too many arcs to look at them for each byte of a long string
}

// A move takes an arc on a byte from a state.
type move struct {
	state int
	b     byte
}

func newMachine(n api.NFA) *machine {
	m := &machine{arcs: arcsByFrom(n), silent: make([][]int, n.States), known: map[move]stateSet{}}
	for _, a := range n.Arcs {
		if a.Epsilon {
			m.silent[a.From] = append(m.silent[a.From], a.To)
		}
	}
	return m
}

// arcsByFrom returns the arcs of n by the state that they leave.
func arcsByFrom(n api.NFA) [][]api.NFAArc {
	byFrom := func(a, b api.NFAArc) int { return cmp.Compare(a.From, b.From) }
	arcs := n.Arcs
	if !slices.IsSortedFunc(arcs, byFrom) { // those of a position automaton are, and need no copy
		arcs = slices.Clone(arcs)
		slices.SortFunc(arcs, byFrom)
	}
	l := make([][]api.NFAArc, n.States)
	for state := range l {
		end := 0
		for end < len(arcs) && arcs[end].From == state {
			end++
		}
		l[state], arcs = arcs[:end], arcs[end:]
	}
	return l
}

// noStates returns an empty set that has room for all states of m.
func (m *machine) noStates() stateSet {
	return make(stateSet, (len(m.arcs)+wordBits-1)/wordBits)
}

// closure returns the closure of the given states.
func (m *machine) closure(states []int) stateSet {
	s := m.noStates()
	for _, state := range states {
		if state >= 0 && state < len(m.arcs) {
			s.add(state)
		}
	}
	m.close(s)
	return s
}

// step returns the closure of the states to which arcs on the byte b lead from the states of s.
func (m *machine) step(s stateSet, b byte) stateSet {
	next := m.noStates()
	for _, state := range s.list() {
		next.addAll(m.targets(move{state, b}))
	}
	m.close(next)
	return next
}

// targets returns the states to which a move leads.
func (m *machine) targets(x move) stateSet {
	if s, found := m.known[x]; found {
		return s
	}
	s := m.noStates()
	for _, a := range m.arcs[x.state] {
		if byteset.Has(a.Set, x.b) { // which the set of an epsilon transition does not contain
			s.add(a.To)
		}
	}
	m.known[x] = s
	return s
}

// close adds to s what can be reached from its states by epsilon transitions.
func (m *machine) close(s stateSet) {
	found := s.list()
	// The list grows while the loop runs, so that the loop visits what it adds.
	for i := 0; i < len(found); i++ {
		for _, to := range m.silent[found[i]] {
			if !s.has(to) {
				s.add(to)
				found = append(found, to)
			}
		}
	}
}
