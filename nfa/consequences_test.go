package nfa_test

import (
	"math/rand"
	"slices"
	"testing"

	"emendate/api"
	"emendate/nfa"
)

// after returns the states of n after the string s, if it starts in the closure of the given ones.
func after(n api.NFA, states []int, s string) []int {
	now := nfa.Closure(n, states)
	for i := range len(s) {
		now = nfa.Step(n, now, s[i])
	}
	return now
}

// isSubset reports whether the states of a, in increasing order, are among those of b.
func isSubset(a, b []int) bool {
	return !slices.ContainsFunc(a, func(state int) bool { return !slices.Contains(b, state) })
}

// eachAutomaton calls f with random automata and with position automata.
func eachAutomaton(f func(random *rand.Rand, n api.NFA)) {
	random := rand.New(rand.NewSource(3))
	for range 3000 {
		f(random, randomAutomaton(random, 9, 20))
		n, err := nfa.FromRegexes(randomRegexes(random, 3, 4))
		if err == api.OK {
			f(random, n)
		}
	}
}

func TestClosureIsIdempotent(t *testing.T) { // P9.4
	eachAutomaton(func(random *rand.Rand, n api.NFA) {
		l := nfa.Closure(n, randomStates(random, n))
		checkClosure(t, n, l, l)
		slices.Reverse(l)
		checkClosure(t, n, append(l, l...), nfa.Closure(n, l))
		for _, b := range []byte("ab") {
			next := nfa.Step(n, l, b)
			checkClosure(t, n, next, next)
			checkStep(t, n, nfa.Closure(n, l), b, next)
		}
	})
}

func TestMoreStatesLeadToMore(t *testing.T) { // P9.4
	eachAutomaton(func(random *rand.Rand, n api.NFA) {
		few, more := randomStates(random, n), randomStates(random, n)
		all := slices.Concat(more, few)
		for _, s := range []string{"", "a", "b", "\x00", randomString(random, 6)} {
			if part, whole := after(n, few, s), after(n, all, s); !isSubset(part, whole) {
				t.Errorf("P9.4: %v: after %q: %v from %v, but %v from %v", n, s, part, few, whole, all)
			}
			union := slices.Concat(after(n, few, s), after(n, more, s))
			slices.Sort(union)
			if whole := after(n, all, s); !slices.Equal(whole, slices.Compact(union)) {
				t.Errorf("P9.4: %v: after %q from %v: %v, but %v from the parts", n, s, all, whole, union)
			}
		}
	})
}

func TestConcatenation(t *testing.T) { // P9.4
	eachAutomaton(func(random *rand.Rand, n api.NFA) {
		l := randomStates(random, n)
		first, second := randomString(random, 6), randomString(random, 6)
		whole := after(n, l, first+second)
		if parts := after(n, after(n, l, first), second); !slices.Equal(whole, parts) {
			t.Errorf("P9.4: %v: after %q and %q from %v: %v, but %v at once", n, first, second, l, parts, whole)
		}
		if want := reached(n, l, first+second); !slices.Equal(whole, want) {
			t.Errorf("P9.4: %v: after %q from %v: %v, want %v", n, first+second, l, whole, want)
		}
		checkRun(t, n, first+second, accepted(n, after(n, after(n, []int{n.Start}, first), second)))
	})
}
