package dfa_test

import (
	"math"
	"math/rand"
	"slices"
	"testing"

	"emendate/api"
	"emendate/dfa"
)

func checkMinimize(t *testing.T, d, want api.DFA) {
	t.Helper()
	if got := dfa.Minimize(d); !equalAutomata(got, want) {
		t.Errorf("P10.3: Minimize(%s): %s, want %s", show(d), show(got), show(want))
	}
}

// nothing is the minimal automaton that accepts no string.
func nothing() api.DFA { return automaton(classes(), []int{-1}, []int{-1}) }

// aPlus is the minimal automaton of one or more a, with the number 0.
func aPlus() api.DFA { return automaton(classes("a"), []int{-1, 0}, []int{-1, 1}, []int{-1, 1}) }

func TestMinimizeExamples(t *testing.T) { // P10.3
	checkMinimize(t, aPlus(), aPlus())
	checkMinimize(t, automaton(classes("a"), []int{-1, 0, 0}, []int{-1, 1}, []int{-1, 2}, []int{-1, 2}), aPlus())
}

func TestMinimizeDropsStates(t *testing.T) { // P10.3
	a := classes("a")
	for _, x := range []struct{ d, want api.DFA }{
		// States that are not reachable: one that accepts, one that leads to the others, a cycle of two.
		{automaton(a, []int{-1, 0, 5}, []int{-1, 1}, []int{-1, 1}, []int{2, 2}), aPlus()},
		{automaton(a, []int{-1, 5, 0}, []int{-1, 2}, []int{0, 2}, []int{-1, 2}), aPlus()},
		{automaton(a, []int{-1, 0, 1, 2}, []int{-1, 1}, []int{-1, 1}, []int{3, 0}, []int{2, 1}), aPlus()},
		// States that are not live: at the end, in the middle, several of them, reached by several bytes.
		{automaton(a, []int{-1, 0, -1}, []int{2, 1}, []int{-1, 1}, []int{-1, -1}), aPlus()},
		{automaton(a, []int{-1, -1, 0}, []int{1, 2}, []int{1, 1}, []int{1, 2}), aPlus()},
		{automaton(a, []int{-1, -1, 0, -1}, []int{3, 2}, []int{3, -1}, []int{1, 2}, []int{1, 3}), aPlus()},
		// A state that is neither reachable nor live.
		{automaton(a, []int{-1, 0, -1}, []int{-1, 1}, []int{-1, 1}, []int{2, -1}), aPlus()},
		// Reachable only from states that are not.
		{automaton(a, []int{-1, 0, -1, 7}, []int{-1, 1}, []int{-1, 1}, []int{3, 3}, []int{0, 1}), aPlus()},
		// The start state accepts.
		{automaton(a, []int{2, 2}, []int{-1, 1}, []int{-1, 0}), automaton(a, []int{2}, []int{-1, 0})},
		{automaton(a, []int{2, -1, 0}, []int{1, 1}, []int{1, 1}, []int{2, 2}), automaton(classes(), []int{2}, []int{-1})},
		{automaton(a, []int{2}, []int{0, 0}), automaton(classes(), []int{2}, []int{0})},
		// States that are live only by way of the start state.
		{automaton(a, []int{3, -1, -1}, []int{-1, 1}, []int{2, -1}, []int{0, -1}), automaton(a, []int{3, -1, -1}, []int{-1, 1}, []int{2, -1}, []int{0, -1})},
	} {
		checkMinimize(t, x.d, x.want)
	}
}

func TestMinimizeNothing(t *testing.T) { // P10.3
	a, ab := classes("a"), classes("a", "b")
	for _, d := range []api.DFA{
		nothing(),
		automaton(classes(), []int{-1}, []int{0}),
		automaton(a, []int{-1}, []int{0, -1}),
		automaton(a, []int{-1}, []int{-1, 0}),
		automaton(ab, []int{-1, -1}, []int{0, 1, 1}, []int{1, 1, 1}),
		automaton(ab, []int{-1, -1, -1}, []int{1, 2, 0}, []int{2, -1, 0}, []int{0, 1, -1}),
		automaton(ab, []int{-1, 0}, []int{0, -1, 0}, []int{0, 1, 0}), // what accepts is not reachable
		automaton(slices.Repeat([]int{2}, 256), []int{-1, 0}, []int{1, 1, 0}, []int{1, 1, 1}),
		filled(500, 3),
	} {
		checkMinimize(t, d, nothing())
	}
}

func TestMinimizeMergesStates(t *testing.T) { // P10.3
	a, ab := classes("a"), classes("a", "b")
	either := automaton(classes("ab"), []int{-1, 4}, []int{-1, 1}, []int{-1, -1})
	loop := automaton(a, []int{0}, []int{-1, 0})
	for _, x := range []struct{ d, want api.DFA }{
		// Two states that accept the same number.
		{automaton(ab, []int{-1, 4, 4}, []int{-1, 1, 2}, []int{-1, -1, -1}, []int{-1, -1, -1}), either},
		// They differ only in that a successor is missing, or is not live.
		{automaton(ab, []int{-1, 4, 4, -1}, []int{-1, 1, 2}, []int{3, -1, -1}, []int{-1, 3, 3}, []int{-1, -1, 3}), either},
		{automaton(ab, []int{-1, 4, 4, -1, -1}, []int{3, 1, 2}, []int{3, 4, -1}, []int{4, -1, 3}, []int{4, 4, 4}, []int{-1, 3, -1}), either},
		// They lead to each other.
		{automaton(a, []int{0, 0}, []int{-1, 1}, []int{-1, 0}), loop},
		{automaton(a, []int{0, 0, 0}, []int{-1, 1}, []int{-1, 2}, []int{-1, 1}), loop},
		// A cycle that is twice as long as it must be.
		{automaton(a, []int{0, -1, 0, -1}, []int{-1, 1}, []int{-1, 2}, []int{-1, 3}, []int{-1, 0}), automaton(a, []int{0, -1}, []int{-1, 1}, []int{-1, 0})},
		// The start state equals another one.
		{automaton(ab, []int{-1, 8, -1}, []int{-1, 1, 2}, []int{-1, -1, 0}, []int{-1, 1, 0}), automaton(ab, []int{-1, 8}, []int{-1, 1, 0}, []int{-1, -1, 0})},
		// Two pairs of equal states, of which the second makes the first equal.
		{automaton(ab, []int{-1, -1, -1, 3, 3}, []int{-1, 1, 2}, []int{-1, 3, 4}, []int{-1, 4, 3}, []int{-1, -1, -1}, []int{-1, -1, -1}),
			automaton(classes("ab"), []int{-1, -1, 3}, []int{-1, 1}, []int{-1, 2}, []int{-1, -1})},
	} {
		checkMinimize(t, x.d, x.want)
	}
}

func TestMinimizeKeepsStatesApart(t *testing.T) { // P10.3
	a, ab := classes("a"), classes("a", "b")
	for _, d := range []api.DFA{
		nothing(),
		aPlus(),
		automaton(classes(), []int{0}, []int{-1}),
		automaton(classes(), []int{0}, []int{0}),
		// States that accept different numbers, or a number and none.
		automaton(ab, []int{-1, 0, 1}, []int{-1, 1, 2}, []int{-1, -1, -1}, []int{-1, -1, -1}),
		automaton(ab, []int{-1, math.MaxInt, math.MaxInt - 1}, []int{-1, 1, 2}, []int{-1, -1, -1}, []int{-1, -1, -1}),
		automaton(a, []int{-1, 0, -1}, []int{1, 2}, []int{1, 1}, []int{1, 1}),
		automaton(a, []int{-1, 1 << 32, 0}, []int{1, 2}, []int{-1, -1}, []int{-1, -1}),
		automaton(a, []int{0, 1}, []int{-1, 1}, []int{-1, 0}),
		// A missing successor.
		automaton(ab, []int{-1, 4, 4}, []int{-1, 1, 2}, []int{1, -1, -1}, []int{-1, -1, -1}),
		automaton(a, []int{0, 0, 0}, []int{-1, 1}, []int{-1, 2}, []int{-1, -1}),
		// Cycles in which one state accepts, or all but one.
		automaton(a, []int{0, -1, -1, -1, -1}, []int{-1, 1}, []int{-1, 2}, []int{-1, 3}, []int{-1, 4}, []int{-1, 0}),
		automaton(a, []int{-1, 7, 7, 7, 7}, []int{-1, 1}, []int{-1, 2}, []int{-1, 3}, []int{-1, 4}, []int{-1, 0}),
		automaton(a, []int{0, -1, 0, -1, -1, -1}, []int{-1, 1}, []int{-1, 2}, []int{-1, 3}, []int{-1, 4}, []int{-1, 5}, []int{-1, 0}),
		// Strings of more than one byte: the same successors but two.
		automaton(ab, []int{-1, -1, -1, 2, 3}, []int{-1, 1, 2}, []int{-1, 3, 4}, []int{-1, 4, 3}, []int{-1, -1, -1}, []int{-1, -1, -1}),
	} {
		checkMinimize(t, d, d)
	}
}

func TestMinimizeNumbersStates(t *testing.T) { // P10.3
	abc := classes("a", "b", "c")
	// By the classes in order, whatever the numbers in the argument.
	checkMinimize(t, automaton(abc, []int{-1, 1, 2, 3}, []int{-1, 3, 2, 1}, []int{-1, -1, -1, -1}, []int{-1, -1, -1, -1}, []int{-1, -1, -1, -1}),
		automaton(abc, []int{-1, 3, 2, 1}, []int{-1, 1, 2, 3}, []int{-1, -1, -1, -1}, []int{-1, -1, -1, -1}, []int{-1, -1, -1, -1}))
	// The other bytes have class 0 and come first.
	checkMinimize(t, automaton(abc, []int{-1, 1, 2, 3, 4}, []int{4, 1, 2, 3}, []int{-1, -1, -1, -1}, []int{-1, -1, -1, -1}, []int{-1, -1, -1, -1}, []int{-1, -1, -1, -1}),
		automaton(abc, []int{-1, 4, 1, 2, 3}, []int{1, 2, 3, 4}, []int{-1, -1, -1, -1}, []int{-1, -1, -1, -1}, []int{-1, -1, -1, -1}, []int{-1, -1, -1, -1}))
	// By breadth: both successors of the start state come before those of the first one.
	checkMinimize(t, automaton(abc, []int{-1, 5, 6, 7, 8}, []int{-1, 1, 3, -1}, []int{-1, 2, 0, -1}, []int{-1, -1, -1, 1}, []int{-1, 4, 2, -1}, []int{-1, -1, 3, -1}),
		automaton(abc, []int{-1, 5, 7, 6, 8}, []int{-1, 1, 2, -1}, []int{-1, 3, 0, -1}, []int{-1, 4, 3, -1}, []int{-1, -1, -1, 1}, []int{-1, -1, 2, -1}))
	// Equal states have one number, that of the first one found.
	checkMinimize(t, automaton(abc, []int{-1, 5, 6, 6}, []int{-1, 2, 1, 3}, []int{-1, -1, 0, -1}, []int{0, -1, -1, -1}, []int{0, -1, -1, -1}),
		automaton(classes("ac", "b"), []int{-1, 6, 5}, []int{-1, 1, 2}, []int{0, -1, -1}, []int{-1, -1, 0}))
}

func TestMinimizeNumbersClasses(t *testing.T) { // P10.3
	// The bytes a and b, whose classes differ in the argument, have the same successors.
	want := automaton(classes("ab"), []int{-1, 0}, []int{-1, 1}, []int{-1, 0})
	checkMinimize(t, automaton(classes("a", "b"), []int{-1, 0}, []int{-1, 1, 1}, []int{-1, 0, 0}), want)
	checkMinimize(t, automaton(classes("b", "a"), []int{-1, 0, 0}, []int{-1, 1, 2}, []int{-1, 0, 0}, []int{-1, 0, 0}), want)
	checkMinimize(t, automaton(classes("ac", "b", "c"), []int{-1, 0, -1}, []int{2, 1, 1, -1}, []int{-1, 0, 0, 2}, []int{-1, 2, 2, 2}), want)
	// They differ in one state, the last one found.
	apart := automaton(classes("a", "b"), []int{-1, -1, 0}, []int{-1, 1, 1}, []int{-1, 2, 2}, []int{-1, -1, 1})
	checkMinimize(t, apart, apart)
	// In one that is not reachable, or not live, or only by where they lead that is not live.
	checkMinimize(t, automaton(classes("a", "b"), []int{-1, 0, 3}, []int{-1, 1, 1}, []int{-1, 0, 0}, []int{-1, 1, 2}), want)
	checkMinimize(t, automaton(classes("a", "b"), []int{-1, 0, -1}, []int{2, 1, 1}, []int{-1, 0, 0}, []int{-1, 2, -1}), want)
	checkMinimize(t, automaton(classes("a", "b", "c", "d"), []int{-1, 0, -1}, []int{-1, 1, 1, 2, -1}, []int{-1, 0, 0, -1, 2}, []int{-1, -1, -1, 2, -1}), want)

	// By the least bytes, whatever the numbers in the argument: 0 and 255 among them.
	class := slices.Repeat([]int{2}, 256)
	class[0], class['q'], class[255] = 1, 0, 1
	checkMinimize(t, automaton(class, []int{-1, 3}, []int{1, 0, -1}, []int{-1, -1, -1}),
		automaton(renumbered(class, []int{2, 0, 1}), []int{-1, 3}, []int{0, -1, 1}, []int{-1, -1, -1}))
	class[0] = 2
	checkMinimize(t, automaton(class, []int{-1, 3}, []int{1, 0, -1}, []int{-1, -1, -1}),
		automaton(renumbered(class, []int{1, 2, 0}), []int{-1, 3}, []int{-1, 1, 0}, []int{-1, -1, -1}))
	class[255], class[254] = 2, 1
	checkMinimize(t, automaton(class, []int{-1, 3}, []int{1, 0, -1}, []int{-1, -1, -1}),
		automaton(renumbered(class, []int{1, 2, 0}), []int{-1, 3}, []int{-1, 1, 0}, []int{-1, -1, -1}))

	// A class without bytes leads nowhere and tells nothing apart.
	checkMinimize(t, automaton(classes("a"), []int{-1, 0, 5}, []int{-1, 1, 2}, []int{-1, 1, 0}, []int{0, 0, 0}), aPlus())
	checkMinimize(t, automaton(classes("a"), []int{-1, 0, 0}, []int{-1, 1, 2}, []int{-1, 2, -1}, []int{-1, 1, 1}), aPlus())
	checkMinimize(t, automaton(slices.Repeat([]int{1}, 256), []int{-1, 0}, []int{1, -1}, []int{1, 1}), nothing())
	checkMinimize(t, automaton(slices.Repeat([]int{3}, 256), []int{0, 0}, []int{-1, -1, -1, 1}, []int{1, 0, 1, 0}), automaton(classes(), []int{0}, []int{0}))
	many := filled(2, 100000)
	many.Accept[0] = 1
	many.Class[9] = 99999
	many.Next[0][99999] = -1
	want = automaton(classes("\x09"), []int{1}, []int{0, -1})
	checkMinimize(t, many, want)
}

// renumbered returns class with the numbers that stand in its place in numbers.
func renumbered(class, numbers []int) []int {
	var l []int
	for _, c := range class {
		l = append(l, numbers[c])
	}
	return l
}

// 256 classes, which are merged step by step.
func TestMinimizeManyClasses(t *testing.T) { // P10.3
	for _, kinds := range []int{1, 2, 3, 16, 128, 255, 256} {
		class := make([]int, 256)
		d := automaton(class, []int{-1}, make([]int, 256))
		for b := range class {
			class[b] = 255 - b // the greatest byte has class 0
			d.Next[0][b] = 1 + b%kinds
		}
		for i := range kinds {
			d.Next = append(d.Next, slices.Repeat([]int{-1}, 256))
			d.Accept = append(d.Accept, i)
		}
		want := minimal(d)
		if len(want.Next) != 1+kinds || len(want.Next[0]) != kinds || want.Class[kinds-1] != kinds-1 {
			t.Fatal("wrong model")
		}
		checkMinimize(t, d, want)
	}
}

func TestMinimizeSmallAutomata(t *testing.T) { // P10.3
	ab, c0 := classes("a", "b"), slices.Repeat([]int{1}, 256)
	c0[0], c0['c'] = 0, 0
	l := slices.Concat(
		smallAutomata(classes(), 1, 1, 1),
		smallAutomata(classes("a"), 1, 2, 1),
		smallAutomata(ab, 1, 3, 1),
		smallAutomata(classes(), 2, 1, 1),
		smallAutomata(classes("a"), 2, 2, 1),
		smallAutomata(c0, 2, 2, 1),
		smallAutomata(slices.Repeat([]int{1}, 256), 2, 2, 0),
		smallAutomata(ab, 2, 3, 0),
		smallAutomata(classes("a"), 2, 3, 0),
		smallAutomata(classes(), 3, 1, 1),
		smallAutomata(classes(), 4, 1, 0),
	)
	for i, d := range smallAutomata(c0, 3, 2, 0) {
		if i%7 == 0 {
			l = append(l, d)
		}
	}
	for _, d := range l {
		checkMinimize(t, d, minimal(d))
	}
}

func TestMinimizeManyAutomata(t *testing.T) { // P10.3
	random := rand.New(rand.NewSource(4))
	for range 3000 {
		d := randomDFA(random, 8, 5)
		checkMinimize(t, d, minimal(d))
		d = disguise(random, d)
		checkMinimize(t, d, minimal(d))
	}
}

// Automata with as many states as there can be, all of which are needed, or few.
func TestMinimizeLargeAutomata(t *testing.T) { // P10.3
	const most = api.MaxStates
	for _, period := range []int{1, 2, 5, 100, 250, 500} {
		cycle, want := filled(most, 2), filled(period, 2)
		for _, d := range []api.DFA{cycle, want} {
			d.Class['a'] = 1
			for state, row := range d.Next {
				row[0], row[1] = -1, (state+1)%len(d.Next)
				if state%period == period-1 {
					d.Accept[state] = 2
				}
			}
		}
		checkMinimize(t, cycle, want)
	}
	chain := filled(most, 256) // of which the last state accepts; a different byte leads back from each
	for b := range 256 {
		chain.Class[b] = b
	}
	for state, row := range chain.Next {
		for class := range row {
			row[class] = min(state+1, most-1)
		}
		row[(7*state+3)%256] = 0
	}
	chain.Accept[most-1] = 0
	checkMinimize(t, chain, chain)
	chain.Accept[most-1] = -1
	checkMinimize(t, chain, nothing())
}
