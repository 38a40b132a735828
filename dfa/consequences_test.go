package dfa_test

import (
	"math/rand"
	"slices"
	"testing"

	"emendate/api"
	"emendate/dfa"
	"emendate/nfa"
)

// checkMinimal minimizes d, checks the result against d, and returns it.
func checkMinimal(t *testing.T, d api.DFA) api.DFA {
	t.Helper()
	m := dfa.Minimize(d)
	if !dfa.Valid(m) {
		t.Fatalf("P10.5: Minimize(%s) is not valid: %s", show(d), show(m))
	}
	if len(m.Next) > len(d.Next) || len(m.Next[0]) > len(d.Next[0]) {
		t.Errorf("P10.5: Minimize(%s) has more states or classes: %s", show(d), show(m))
	}
	if s, differ := dfa.Difference(d, m); differ {
		t.Errorf("P10.5: %s and its minimal automaton differ for %q", show(d), s)
	}
	if again := dfa.Minimize(m); !equalAutomata(again, m) {
		t.Errorf("P10.5: Minimize(%s): %s", show(m), show(again))
	}
	return m
}

// checkEquivalence checks that a and b are equivalent just if their minimal automata x and y are equal.
func checkEquivalence(t *testing.T, a, b, x, y api.DFA) {
	t.Helper()
	s, differ := dfa.Difference(a, b)
	if differ == equalAutomata(x, y) {
		t.Errorf("P10.5: %s and %s: Difference is %q, %t, but the minimal automata are %s and %s", show(a), show(b), s, differ, show(x), show(y))
	}
	if !differ && len(x.Next) > len(b.Next) {
		t.Errorf("P10.5: %s has more states than the equivalent automaton %s", show(x), show(b))
	}
}

func TestMinimalAutomataOfSmallAutomata(t *testing.T) { // P10.5
	l := slices.Concat(
		smallAutomata(classes(), 1, 1, 1),
		smallAutomata(classes("a"), 1, 2, 1),
		smallAutomata(classes("a"), 2, 2, 0),
	)
	for i, d := range slices.Concat(smallAutomata(classes("ab"), 2, 2, 0), smallAutomata(classes(), 3, 1, 0)) {
		if i%5 == 0 {
			l = append(l, d)
		}
	}
	var minimals []api.DFA
	for _, d := range l {
		minimals = append(minimals, checkMinimal(t, d))
	}
	for i := range l {
		for k := range i + 1 {
			checkEquivalence(t, l[i], l[k], minimals[i], minimals[k])
			checkEquivalence(t, l[k], l[i], minimals[k], minimals[i])
		}
	}
}

func TestMinimalAutomataOfManyAutomata(t *testing.T) { // P10.5
	random := rand.New(rand.NewSource(6))
	for range 3000 {
		a := randomDFA(random, 8, 5)
		b := disguise(random, a)
		x, y := checkMinimal(t, a), checkMinimal(t, b)
		checkEquivalence(t, a, b, x, y)
		if !equalAutomata(x, y) {
			t.Errorf("P10.5: the minimal automata of %s and %s are %s and %s", show(a), show(b), show(x), show(y))
		}
		state, class := random.Intn(len(b.Next)), random.Intn(len(b.Next[0]))
		b.Next[state][class] = random.Intn(len(b.Next)+1) - 1
		checkEquivalence(t, a, b, x, checkMinimal(t, b))
		b.Accept[state] = random.Intn(3) - 1
		checkEquivalence(t, a, b, x, checkMinimal(t, b))
	}
}

// The order of the states and arcs of a nondeterministic automaton does not count.
func TestMinimalAutomataOfNondeterministicAutomata(t *testing.T) { // P10.5
	random := rand.New(rand.NewSource(7))
	for range 1000 {
		n := randomNFA(random, 7, 14)
		d := determinize(t, n)
		m := checkMinimal(t, d)
		place := random.Perm(n.States)
		other := api.NFA{States: n.States, Start: place[n.Start], Accept: slices.Clone(n.Accept)}
		for state, number := range n.Accept {
			other.Accept[place[state]] = number
		}
		for _, i := range random.Perm(len(n.Arcs)) {
			a := n.Arcs[i]
			a.From, a.To = place[a.From], place[a.To]
			other.Arcs = append(other.Arcs, a)
		}
		e := determinize(t, other)
		checkEquivalence(t, d, e, m, checkMinimal(t, e))
		if s, differ := dfa.Difference(m, e); differ {
			t.Errorf("P10.5: %v and %v differ for %q", n, other, s)
		}
		for range 5 {
			s := randomString(random, 8)
			if got, want := dfa.Run(m, s), nfa.Run(n, s); got != want {
				t.Errorf("P10.5: %v: Run(%q) of the minimal automaton: %d, want %d", n, s, got, want)
			}
		}
	}
}

// Layer 9's Run of an automaton that is deterministic already.
func TestDeterminizeDeterministicAutomata(t *testing.T) { // P10.5
	random := rand.New(rand.NewSource(8))
	for range 1000 {
		d := randomDFA(random, 7, 4)
		n := api.NFA{States: len(d.Next), Accept: d.Accept}
		for state, row := range d.Next {
			for b, class := range d.Class {
				if to := row[class]; to >= 0 {
					n.Arcs = append(n.Arcs, on(state, to, string([]byte{byte(b)})))
				}
			}
		}
		e := determinize(t, n)
		if x, y := checkMinimal(t, d), checkMinimal(t, e); !equalAutomata(x, y) {
			t.Errorf("P10.5: %s is minimal for %s, but %s for its own arcs", show(x), show(d), show(y))
		}
	}
}
