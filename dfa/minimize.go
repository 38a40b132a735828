package dfa

import (
	"slices"

	"emendate/api"
)

// Minimize returns the minimal automaton of d. It requires a valid automaton and returns the zero value for others.
func Minimize(d api.DFA) api.DFA {
	if !Valid(d) {
		return api.DFA{}
	}
	classes := ranks(d.Class) // of which none is without bytes
	next, accept := newTable(d, firsts(classes)).merge()
	columns := ranks(columnsOf(next))
	kept := firsts(columns)
	for state, row := range next {
		next[state] = pick(row, kept)
	}
	return api.DFA{Class: pick(columns, classes), Next: next, Accept: accept}
}

// merge returns the successors and the accepted numbers of the states of the minimal automaton. They are numbered in the order of a breadth-first search, which finds them in the same order if several columns are those of one class.
func (t table) merge() (next [][]int, accept []int) {
	blocks := t.partition()
	dead := blocks[len(blocks)-1]
	numbers := slices.Repeat([]int{none}, len(blocks)) // by block
	numbers[blocks[0]] = 0
	found := []int{0} // a state for each number
	// The list grows while the loop runs, so that the loop visits what it finds.
	for i := 0; i < len(found); i++ {
		row := make([]int, len(t.next[0]))
		for column, to := range t.next[found[i]] {
			block := blocks[to]
			if block == dead { // which has a number if the start state is not live
				row[column] = none
				continue
			}
			if numbers[block] == none {
				numbers[block] = len(found)
				found = append(found, to)
			}
			row[column] = numbers[block]
		}
		next = append(next, row)
	}
	return next, pick(t.accept, found)
}

// partition returns the block of each state. Two states have the same one if they accept the same numbers for the same strings; so states that are not live are in the block of the sink.
func (t table) partition() []int {
	blocks := ranks(t.accept)
	for {
		finer := ranks(t.signatures(blocks))
		if slices.Max(finer) == slices.Max(blocks) {
			return blocks
		}
		blocks = finer
	}
}

// signatures returns for each state a string that tells its block and those of its successors.
func (t table) signatures(blocks []int) []string {
	l := make([]string, len(t.next))
	for state, row := range t.next {
		l[state] = key(append(pick(blocks, row), blocks[state]))
	}
	return l
}

// columnsOf returns for each column a string that tells its successors.
func columnsOf(next [][]int) []string {
	l := make([]string, len(next[0]))
	for column := range l {
		var successors []int
		for _, row := range next {
			successors = append(successors, row[column])
		}
		l[column] = key(successors)
	}
	return l
}

// key writes numbers from -1 to 2^16 - 2, which a map can then compare.
func key(l []int) string {
	s := make([]byte, 0, 2*len(l))
	for _, x := range l {
		s = append(s, byte(x>>8), byte(x))
	}
	return string(s)
}
