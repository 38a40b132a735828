package dfa_test

import (
	"math"
	"math/rand"
	"slices"
	"strings"
	"testing"

	"emendate/api"
	"emendate/dfa"
)

// checkDifference compares a and b, and b and a.
func checkDifference(t *testing.T, a, b api.DFA, want string, differ bool) {
	t.Helper()
	if s, found := dfa.Difference(a, b); s != want || found != differ {
		t.Errorf("P10.4: Difference(%.300s, %.300s): %.40q, %t, want %.40q, %t", show(a), show(b), s, found, want, differ)
	}
	if s, found := dfa.Difference(b, a); s != want || found != differ {
		t.Errorf("P10.4: Difference(%.300s, %.300s): %.40q, %t, want %.40q, %t", show(b), show(a), s, found, want, differ)
	}
}

func TestDifferenceOfEquivalentAutomata(t *testing.T) { // P10.4
	a, ab := classes("a"), classes("a", "b")
	for _, l := range [][]api.DFA{
		{nothing(), automaton(ab, []int{-1, -1}, []int{0, 1, 1}, []int{1, 0, -1}), automaton(a, []int{-1, 3}, []int{0, -1}, []int{1, 1}), filled(500, 1)},
		{
			aPlus(),
			automaton(a, []int{-1, 0, 0}, []int{-1, 1}, []int{-1, 2}, []int{-1, 2}),
			automaton(a, []int{-1, 0, 0, -1}, []int{3, 2}, []int{3, 2}, []int{3, 1}, []int{3, 3}),
			automaton(classes("b", "a"), []int{-1, 0}, []int{-1, -1, 1}, []int{-1, -1, 1}),
			automaton(slices.Concat(slices.Repeat([]int{3}, 97), []int{1}, slices.Repeat([]int{0}, 158)), []int{-1, 0}, []int{-1, 1, 1, -1}, []int{-1, 1, 0, -1}),
			automaton(classes("a"), []int{-1, 0, 7}, []int{-1, 1, 2}, []int{-1, 1, 2}, []int{2, 2, 2}), // with a class without bytes
		},
		{automaton(classes(), []int{5}, []int{0}), automaton(ab, []int{5, 5}, []int{1, 0, 1}, []int{0, 1, 1})},
		{automaton(classes(), []int{5}, []int{-1}), automaton(ab, []int{5, -1}, []int{1, -1, 1}, []int{1, 1, -1})},
		{
			automaton(a, []int{math.MaxInt, -1}, []int{-1, 1}, []int{-1, 0}),
			automaton(a, []int{math.MaxInt, -1, math.MaxInt, -1, math.MaxInt, -1}, []int{-1, 1}, []int{-1, 2}, []int{-1, 3}, []int{-1, 4}, []int{-1, 5}, []int{-1, 0}),
		},
	} {
		for _, x := range l {
			for _, y := range l {
				checkDifference(t, x, y, "", false)
			}
		}
	}
}

func TestDifference(t *testing.T) { // P10.4
	a, ab, abc := classes("a"), classes("a", "b"), classes("a", "b", "c")
	empty := automaton(classes(), []int{0}, []int{-1})
	all := automaton(classes(), []int{0}, []int{0})
	for _, x := range []struct {
		a, b api.DFA
		want string
	}{
		// The empty string: accepted or not, or with another number.
		{nothing(), empty, ""},
		{nothing(), all, ""},
		{all, automaton(classes(), []int{1}, []int{0}), ""},
		{automaton(classes(), []int{math.MaxInt}, []int{0}), automaton(classes(), []int{math.MaxInt - 1}, []int{0}), ""},
		{automaton(a, []int{0, 2}, []int{1, 1}, []int{1, 1}), automaton(a, []int{2, 0}, []int{1, 1}, []int{1, 1}), ""},
		// A string of one byte, the least one: 0 where all bytes tell the automata apart.
		{empty, all, "\x00"},
		{empty, automaton(a, []int{0, 0}, []int{-1, 1}, []int{-1, -1}), "a"},
		{empty, automaton(classes("xby"), []int{0, 0}, []int{-1, 1}, []int{-1, -1}), "b"},
		{empty, automaton(classes("x", "y", "b"), []int{0, 0}, []int{-1, 1, 1, 1}, []int{-1, -1, -1, -1}), "b"},
		{empty, automaton(classes("\xff"), []int{0, 0}, []int{-1, 1}, []int{-1, -1}), "\xff"},
		{empty, automaton(classes("\xff\xfe"), []int{0, 0}, []int{-1, 1}, []int{-1, -1}), "\xfe"},
		{empty, automaton(classes("\x00"), []int{0, 0}, []int{1, -1}, []int{-1, -1}), "\x01"},
		{empty, automaton(classes("\x00"), []int{0, 0}, []int{-1, 1}, []int{-1, -1}), "\x00"},
		{aPlus(), automaton(classes("b"), []int{-1, 0}, []int{-1, 1}, []int{-1, 1}), "a"},
		{aPlus(), automaton(ab, []int{-1, 0}, []int{-1, 1, 1}, []int{-1, 1, -1}), "b"},
		// A byte of the same class in one automaton, but not in the other.
		{automaton(classes("ab"), []int{-1, 4}, []int{-1, 1}, []int{-1, -1}), automaton(ab, []int{-1, 4, 5}, []int{-1, 1, 2}, []int{-1, -1, -1}, []int{-1, -1, -1}), "b"},
		{automaton(classes("ac"), []int{-1, 4}, []int{-1, 1}, []int{-1, -1}), automaton(classes("ab"), []int{-1, 4}, []int{-1, 1}, []int{-1, -1}), "b"},
		// The number alone.
		{aPlus(), automaton(a, []int{-1, 1}, []int{-1, 1}, []int{-1, 1}), "a"},
		{aPlus(), automaton(a, []int{-1, 0, 0, 3}, []int{-1, 1}, []int{-1, 2}, []int{-1, 3}, []int{-1, 3}), "aaa"},
		// A run ends for want of a successor.
		{aPlus(), automaton(a, []int{-1, 0, 0}, []int{-1, 1}, []int{-1, 2}, []int{-1, -1}), "aaa"},
		{all, automaton(a, []int{0}, []int{0, -1}), "a"},
		{all, automaton(a, []int{0, 0}, []int{0, 1}, []int{0, -1}), "aa"},
		{automaton(ab, []int{-1, 0}, []int{0, 1, -1}, []int{1, -1, -1}), automaton(ab, []int{-1, 0}, []int{0, 1, 0}, []int{1, -1, -1}), "ba"},
		// A shorter string, though a longer one is less.
		{automaton(ab, []int{0, 0, 0}, []int{-1, 1, 2}, []int{-1, 1, 1}, []int{-1, 2, 2}), automaton(ab, []int{0, 0, 0, 1}, []int{-1, 1, 2}, []int{-1, 3, 1}, []int{-1, 2, 2}, []int{-1, 3, 1}), "aa"},
		{automaton(ab, []int{0, 0}, []int{-1, 1, -1}, []int{-1, -1, -1}), automaton(ab, []int{0, 0, 0, 0}, []int{-1, 1, 3}, []int{-1, 2, -1}, []int{-1, -1, -1}, []int{-1, -1, -1}), "b"},
		// The least of several of the same length.
		{nothing(), automaton(abc, []int{-1, -1, -1, 0}, []int{-1, -1, 2, 1}, []int{-1, 3, -1, -1}, []int{-1, -1, 3, 3}, []int{-1, -1, -1, -1}), "bb"},
		{nothing(), automaton(abc, []int{-1, -1, -1, 0}, []int{-1, 2, -1, 1}, []int{-1, 3, -1, -1}, []int{-1, -1, -1, 3}, []int{-1, -1, -1, -1}), "ac"},
		{nothing(), automaton(classes("\xff", "\x00"), []int{-1, -1, -1, 6}, []int{-1, 2, 1}, []int{-1, 3, -1}, []int{-1, -1, 3}, []int{-1, -1, -1}), "\x00\xff"},
		// The same pair of states by several strings.
		{automaton(classes(), []int{-1, -1, -1}, []int{1}, []int{2}, []int{2}), automaton(ab, []int{-1, -1, -1, 9}, []int{1, 1, 1}, []int{2, 2, 2}, []int{2, 2, 3}, []int{-1, -1, -1}), "\x00\x00b"},
		{automaton(classes(), []int{-1}, []int{0}), automaton(ab, []int{-1, -1, 9}, []int{0, 1, 0}, []int{0, 1, 2}, []int{-1, -1, -1}), "ab"},
	} {
		checkDifference(t, x.a, x.b, x.want, true)
		if s, found := difference(x.a, x.b); s != x.want || !found {
			t.Errorf("wrong case or model: %s, %s: %q, want %q", show(x.a), show(x.b), s, x.want)
		}
	}
}

// For every byte, and every two bytes that alone tell the automata apart.
func TestDifferenceByEveryByte(t *testing.T) { // P10.4
	only := automaton(classes(), []int{-1, 3}, []int{1}, []int{-1})
	for b := range 256 {
		for _, c := range []int{0, 1, 100, 254, 255} {
			d := copyOf(only)
			d.Class[b], d.Class[c] = 1, 1
			d.Next = [][]int{{1, -1}, {-1, -1}}
			checkDifference(t, only, d, string([]byte{byte(min(b, c))}), true)
			d.Class[c] = 2 // which differs in another way
			d.Next = [][]int{{1, -1, 0}, {-1, -1, -1}}
			checkDifference(t, only, d, string([]byte{byte(min(b, c))}), true)
		}
	}
}

func TestDifferenceOfSmallAutomata(t *testing.T) { // P10.4
	ab := classes("a", "b")
	l := slices.Concat(
		smallAutomata(classes("a"), 1, 2, 1),
		smallAutomata(classes("b"), 1, 2, 0),
		smallAutomata(classes("a"), 2, 2, 0),
	)
	strings := allStrings("\x00ab", 4)
	for i, a := range l {
		for _, b := range l[i:] {
			k := slices.IndexFunc(strings, func(s string) bool { return result(a, s) != result(b, s) })
			want := ""
			if k >= 0 {
				want = strings[k]
			}
			checkDifference(t, a, b, want, k >= 0)
		}
	}
	for i, a := range smallAutomata(ab, 2, 3, 0) {
		if b := l[i%len(l)]; i%3 == 0 {
			want, differ := difference(a, b)
			checkDifference(t, a, b, want, differ)
		}
	}
}

func TestDifferenceOfManyAutomata(t *testing.T) { // P10.4
	random := rand.New(rand.NewSource(5))
	count := map[bool]int{}
	for i := range 4000 {
		a, b := randomDFA(random, 6, 4), randomDFA(random, 6, 4)
		if i%2 == 0 { // automata that differ little, or not at all
			b = disguise(random, a)
			if i%4 == 0 {
				state := random.Intn(len(b.Next))
				b.Accept[state] = max(-1, 1-b.Accept[state])
			}
		}
		want, differ := difference(a, b)
		if differ && result(a, want) == result(b, want) {
			t.Fatalf("wrong model: %s, %s", show(a), show(b))
		}
		checkDifference(t, a, b, want, differ)
		count[differ]++
	}
	if min(count[true], count[false]) < 500 {
		t.Errorf("too few automata of one kind: %v", count)
	}
}

// Automata as large as they can be, which only long strings tell apart.
func TestDifferenceOfLargeAutomata(t *testing.T) { // P10.4
	const most = api.MaxStates
	cycle := func(states int, by string) api.DFA { // all of whose states accept 0
		d := filled(states, 2)
		d.Class = classes(by)
		for state, row := range d.Next {
			row[0], row[1] = -1, (state+1)%states
			d.Accept[state] = 0
		}
		return d
	}
	checkDifference(t, cycle(most, "a"), cycle(most-1, "a"), "", false)
	checkDifference(t, cycle(most, "a"), cycle(1, "a"), "", false)
	long, other := cycle(most, "\xff"), cycle(most-1, "\xff")
	long.Accept[most-1] = 1
	checkDifference(t, long, cycle(1, "\xff"), strings.Repeat("\xff", most-1), true)
	other.Accept[most-2] = 1
	checkDifference(t, long, other, strings.Repeat("\xff", most-2), true)
	twice := cycle(most/2, "\xff")
	long.Accept[most-1], long.Accept[most/2-1], twice.Accept[most/2-1] = 4, 4, 4
	checkDifference(t, long, twice, "", false)
	long.Accept[most-1] = 5
	checkDifference(t, long, twice, strings.Repeat("\xff", most-1), true)
	// Every number of a up to the length of the chain, and every other one, which is as long as that.
	chain, ring := cycle(most, "a"), cycle(2, "a")
	chain.Next[most-1][1] = -1
	checkDifference(t, chain, ring, strings.Repeat("a", most), true)
	checkDifference(t, chain, cycle(most-1, "a"), strings.Repeat("a", most), true)
	checkDifference(t, chain, chain, "", false)
}

// All pairs of states are visited, with 256 classes.
func TestDifferenceOfManyPairs(t *testing.T) { // P10.4
	wheel := func(states int) api.DFA {
		d := filled(states, 256)
		for state, row := range d.Next {
			d.Accept[state] = 8
			for class := range row {
				row[class] = (state + class) % states
			}
		}
		for b := range 256 {
			d.Class[b] = b
		}
		return d
	}
	a, b := wheel(api.MaxStates), wheel(api.MaxStates-1)
	if s, differ := dfa.Difference(a, b); differ {
		t.Errorf("P10.4: equivalent automata differ: %q", s)
	}
	b.Accept[300] = 7 // reached by two bytes whose sum is 300, the first of which is at least 45
	if s, differ := dfa.Difference(a, b); s != "\x2d\xff" || !differ {
		t.Errorf("P10.4: %q, %t, want %q", s, differ, "\x2d\xff")
	}
}
