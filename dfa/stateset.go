package dfa

import (
	"iter"
	"math/bits"

	"emendate/api"
)

const (
	maxSources = 4 * api.MaxStates // the greatest number of states of a valid nondeterministic automaton
	wordBits   = 64
)

// A stateSet is a set of states of a nondeterministic automaton: bit i%wordBits of word i/wordBits is 1 if it contains state i. It is an array, which can be the key of a map.
type stateSet [(maxSources + wordBits - 1) / wordBits]uint64

func (s *stateSet) has(state int) bool { return s[state/wordBits]>>(state%wordBits)&1 == 1 }

func (s *stateSet) add(state int) { s[state/wordBits] |= 1 << (state % wordBits) }

func (s *stateSet) addAll(x *stateSet) {
	for i, word := range x {
		s[i] |= word
	}
}

// all returns an iterator over the states of s in increasing order.
func (s *stateSet) all() iter.Seq[int] {
	return func(yield func(int) bool) {
		for i, word := range s {
			for ; word != 0; word &= word - 1 { // without its least element
				if !yield(wordBits*i + bits.TrailingZeros64(word)) {
					return
				}
			}
		}
	}
}
