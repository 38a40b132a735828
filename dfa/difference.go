package dfa

import (
	"slices"

	"emendate/api"
)

// Difference returns the shortest string for which the runs of a and b have different results, the least one if there are several, and true, or false if the automata are equivalent. It requires valid automata and returns false for others.
func Difference(a, b api.DFA) (string, bool) {
	if !Valid(a) || !Valid(b) {
		return "", false
	}
	bytes := firsts(ranks(classPairs(a, b)))
	s := newSearch(newTable(a, bytes), newTable(b, bytes))
	last, found := s.run()
	if !found {
		return "", false
	}
	return s.path(last, bytes), true
}

// classPairs returns for each byte its classes in a and b.
func classPairs(a, b api.DFA) [][2]int {
	l := make([][2]int, byteCount)
	for i := range l {
		l[i] = [2]int{a.Class[i], b.Class[i]}
	}
	return l
}

// A search visits the pairs of states that two tables reach by the same strings: breadth-first, with the columns in order, so that it visits them in the order of the shortest and least strings that lead to them.
type search struct {
	a, b   table
	visits []visit
	seen   []bool // by pair
}

// A visit is a pair of states, the index of the visit from which it was found, and the column that leads there.
type visit struct{ a, b, before, column int }

func newSearch(a, b table) *search {
	return &search{a: a, b: b, seen: make([]bool, len(a.next)*len(b.next))}
}

// run returns the index of the first visit of states that accept different numbers, or false if there is none.
func (s *search) run() (int, bool) {
	s.find(visit{})
	// The visits become more while the loop runs.
	for i := 0; i < len(s.visits); i++ {
		v := s.visits[i]
		if s.a.accept[v.a] != s.b.accept[v.b] {
			return i, true
		}
		for column, to := range s.a.next[v.a] {
			s.find(visit{to, s.b.next[v.b][column], i, column})
		}
	}
	return 0, false
}

// find adds a visit unless its pair has been found before.
func (s *search) find(v visit) {
	pair := v.a*len(s.b.next) + v.b
	if !s.seen[pair] {
		s.seen[pair] = true
		s.visits = append(s.visits, v)
	}
}

// path returns the string that leads to a visit, given the byte of each column.
func (s *search) path(last int, bytes []int) string {
	var l []byte
	for i := last; i != 0; i = s.visits[i].before { // visit 0 is the start
		l = append(l, byte(bytes[s.visits[i].column]))
	}
	slices.Reverse(l)
	return string(l)
}
