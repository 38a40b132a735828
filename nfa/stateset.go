package nfa

import "math/bits"

const wordBits = 64

// A stateSet is a set of states: bit i%wordBits of word i/wordBits is 1 if it contains state i.
type stateSet []uint64

func (s stateSet) has(state int) bool { return s[state/wordBits]>>(state%wordBits)&1 == 1 }

func (s stateSet) add(state int) { s[state/wordBits] |= 1 << (state % wordBits) }

// addAll adds all states of x, which has as much room as s.
func (s stateSet) addAll(x stateSet) {
	for i, word := range x {
		s[i] |= word
	}
}

// list returns the states of s in increasing order.
func (s stateSet) list() []int {
	var l []int
	for i, word := range s {
		for ; word != 0; word &= word - 1 { // without its least element
			l = append(l, wordBits*i+bits.TrailingZeros64(word))
		}
	}
	return l
}
