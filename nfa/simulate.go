package nfa

import "emendate/api"

// Closure returns the states that can be reached from the given ones by epsilon transitions, and these themselves, in increasing order. It requires a valid automaton and returns nil for others.
func Closure(n api.NFA, states []int) []int {
	if !Valid(n) {
		return nil
	}
	return newMachine(n).closure(states).list()
}

// Step returns the closure of the states that are reached from the closure of the given ones by an arc on the byte b, in increasing order. It requires a valid automaton and returns nil for others.
func Step(n api.NFA, states []int, b byte) []int {
	if !Valid(n) {
		return nil
	}
	m := newMachine(n)
	return m.step(m.closure(states), b).list()
}

// Run returns the least nonnegative number that n accepts behind s, or -1 if there is none. It requires a valid automaton and returns -1 for others.
func Run(n api.NFA, s string) int {
	if !Valid(n) {
		return -1
	}
	m := newMachine(n)
	now := m.closure([]int{n.Start})
	for i := range len(s) {
		now = m.step(now, s[i])
	}
	return leastAccepted(n, now.list())
}

// leastAccepted returns the least nonnegative number that one of the states accepts, or -1.
func leastAccepted(n api.NFA, states []int) int {
	least := -1
	for _, state := range states {
		if number := n.Accept[state]; number >= 0 && (least < 0 || number < least) {
			least = number
		}
	}
	return least
}
