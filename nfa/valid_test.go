package nfa_test

import (
	"fmt"
	"math"
	"slices"
	"testing"

	"emendate/api"
	"emendate/nfa"
)

func checkValid(t *testing.T, what string, n api.NFA, want bool) {
	t.Helper()
	if got := nfa.Valid(n); got != want {
		t.Errorf("P9.1: %s: Valid is %t", what, got)
	}
}

func TestValidStates(t *testing.T) { // P9.1
	checkValid(t, "the zero value", api.NFA{}, false)
	for _, states := range []int{math.MinInt, -2001, -2, -1, 0, 1, 2, 3, 500, 501, 1999, 2000, 2001, 2002, 4000, 10000} {
		n := automaton(states)
		checkValid(t, fmt.Sprint(states, " states"), n, states >= 1 && states <= 2000)
		n.Arcs = []api.NFAArc{silent(0, 0), on(0, 0, "a")}
		checkValid(t, fmt.Sprint(states, " states with arcs"), n, states >= 1 && states <= 2000)
	}
	checkValid(t, "no states but entries", api.NFA{Accept: []int{-1}}, false)
	checkValid(t, "most states without entries", api.NFA{States: math.MaxInt}, false)
	checkValid(t, "least states with an entry", api.NFA{States: math.MinInt, Accept: []int{0}}, false)
}

func TestValidStart(t *testing.T) { // P9.1
	for _, states := range []int{1, 2, 3, 7, 1999, 2000} {
		n := automaton(states)
		for _, start := range []int{math.MinInt, -states, -2, -1, 0, 1, 2, states / 2, states - 2, states - 1, states, states + 1, 1 << 32, math.MaxInt} {
			n.Start = start
			checkValid(t, fmt.Sprint(states, " states, start ", start), n, start >= 0 && start < states)
		}
	}
}

func TestValidEndsOfArcs(t *testing.T) { // P9.1
	for _, states := range []int{1, 2, 5, 2000} {
		good := []api.NFAArc{silent(0, states-1), on(states-1, 0, "ab"), silent(states-1, states-1), on(0, 0, "")}
		ends := []int{math.MinInt, -1, 0, states / 2, states - 1, states, states + 1, math.MaxInt}
		for place := range len(good) + 1 {
			for _, from := range ends {
				for _, to := range ends {
					want := from >= 0 && from < states && to >= 0 && to < states
					for _, a := range []api.NFAArc{silent(from, to), on(from, to, ""), on(from, to, "x")} {
						n := automaton(states, slices.Insert(slices.Clone(good), place, a)...)
						checkValid(t, fmt.Sprint(states, " states, arc ", place, " is ", a), n, want)
						checkValid(t, fmt.Sprint(states, " states, the only arc is ", a), automaton(states, a), want)
					}
				}
			}
		}
	}
}

func TestValidSets(t *testing.T) { // P9.1
	for b := range 257 {
		s := allBytes()
		if b < 256 {
			s = bytesOf(string([]byte{byte(b)}))
		}
		for _, epsilon := range []bool{false, true} {
			a := api.NFAArc{From: 1, To: 2, Epsilon: epsilon, Set: s}
			loop := api.NFAArc{From: 1, To: 1, Epsilon: epsilon, Set: s}
			for _, arcs := range [][]api.NFAArc{{a}, {loop}, {a, silent(0, 1)}, {on(0, 1, "a"), a}, {silent(0, 1), a, on(1, 2, "")}} {
				checkValid(t, fmt.Sprint("arcs ", arcs), automaton(3, arcs...), !epsilon)
			}
		}
	}
	checkValid(t, "epsilon transitions", automaton(2, silent(0, 1), silent(0, 1), silent(1, 0)), true)
	checkValid(t, "arcs with the empty set", automaton(2, on(0, 1, ""), on(0, 1, ""), on(1, 1, "")), true)
}

func TestValidAccept(t *testing.T) { // P9.1
	for _, states := range []int{1, 2, 3, 2000} {
		for _, entries := range []int{0, 1, 2, states - 1, states, states + 1, states + 2} {
			n := automaton(states)
			n.Accept = make([]int, entries, entries+3)
			checkValid(t, fmt.Sprint(states, " states, ", entries, " entries"), n, entries == states)
		}
		for _, place := range []int{0, states / 2, states - 1} {
			for _, number := range []int{math.MinInt, -1 << 32, -3, -2, -1, 0, 1, 499, 500, 2000, math.MaxInt} {
				for _, others := range []int{-1, 0, 7} {
					n := automaton(states)
					n.Accept = slices.Repeat([]int{others}, states)
					n.Accept[place] = number
					checkValid(t, fmt.Sprint(states, " states, entry ", place, " is ", number), n, number >= -1)
				}
			}
		}
	}
	spare := automaton(1)
	spare.Accept = []int{0, -2}[:1]
	spare.Arcs = []api.NFAArc{silent(0, 0), silent(0, 9)}[:1]
	checkValid(t, "invalid elements in spare capacity", spare, true)
}

// No fault makes up for another one.
func TestValidWithSeveralFaults(t *testing.T) { // P9.1
	faults := []func(n *api.NFA){
		func(n *api.NFA) { n.States = 0 },
		func(n *api.NFA) { n.States = 2001 },
		func(n *api.NFA) { n.Start = -1 },
		func(n *api.NFA) { n.Start = 3 },
		func(n *api.NFA) { n.Arcs[0].From = 3 },
		func(n *api.NFA) { n.Arcs[1].To = -1 },
		func(n *api.NFA) { n.Arcs[0].Epsilon = true },
		func(n *api.NFA) { n.Accept = []int{-1, 0} },
		func(n *api.NFA) { n.Accept = []int{-1, 0, 4, 5} },
		func(n *api.NFA) { n.Accept = []int{-2, 0, 4} },
	}
	for chosen := range 1 << len(faults) {
		n := automaton(3, on(0, 1, "a"), silent(1, 2))
		for i, fault := range faults {
			if chosen>>i&1 == 1 {
				fault(&n)
			}
		}
		checkValid(t, fmt.Sprintf("faults %b", chosen), n, chosen == 0)
	}
}
