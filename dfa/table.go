package dfa

import (
	"slices"

	"emendate/api"
)

// A table is an automaton without missing successors: its last state, the sink, stands where there is none. It accepts nothing and leads to itself.
type table struct {
	next   [][]int // by state and column; a column is a byte, or several with the same successors
	accept []int   // by state
}

// newTable returns the table of d with a column for each of the given bytes.
func newTable(d api.DFA, bytes []int) table {
	sink := len(d.Next)
	var t table
	for _, successors := range d.Next {
		row := make([]int, len(bytes))
		for column, b := range bytes {
			row[column] = successors[d.Class[b]]
			if row[column] == none {
				row[column] = sink
			}
		}
		t.next = append(t.next, row)
	}
	t.next = append(t.next, slices.Repeat([]int{sink}, len(bytes)))
	t.accept = append(append(t.accept, d.Accept...), none)
	return t
}

// ranks returns a number for each element of l, the same for equal ones, from 0 on in the order in which they first occur.
func ranks[K comparable](l []K) []int {
	known := map[K]int{}
	numbers := make([]int, len(l))
	for i, x := range l {
		number, found := known[x]
		if !found {
			number = len(known)
			known[x] = number
		}
		numbers[i] = number
	}
	return numbers
}

// firsts returns where each number first occurs in a result of ranks.
func firsts(numbers []int) []int {
	var l []int
	for i, number := range numbers {
		if number == len(l) {
			l = append(l, i)
		}
	}
	return l
}

// pick returns the elements of l at the given indices.
func pick(l, indices []int) []int {
	picked := make([]int, len(indices))
	for i, index := range indices {
		picked[i] = l[index]
	}
	return picked
}
