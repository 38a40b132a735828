package dfa_test

import (
	"math"
	"math/rand"
	"slices"
	"strings"
	"testing"

	"emendate/api"
	"emendate/dfa"
)

func checkRun(t *testing.T, d api.DFA, s string, want int) {
	t.Helper()
	if got := dfa.Run(d, s); got != want {
		t.Errorf("P10.1: %s: Run(%.40q): %d, want %d", show(d), s, got, want)
	}
}

func TestRun(t *testing.T) { // P10.1
	// a a* leads to 0, then b to 7, then x to no number; from there c leads back to the start.
	d := automaton(classes("a", "b", "x", "c"), []int{-1, 0, 7, -1},
		[]int{-1, 1, -1, -1, -1}, []int{-1, 1, 2, -1, -1}, []int{-1, -1, -1, 3, -1}, []int{-1, -1, -1, -1, 0})
	// The bytes 0 and 255 each have a class of their own.
	ends := automaton(classes("\xff", "\x00"), []int{3, 0, math.MaxInt}, []int{0, 1, 2}, []int{-1, 2, 1}, []int{-1, -1, -1})
	for _, x := range []struct {
		d    api.DFA
		s    string
		want int
	}{
		{d, "", -1},
		{d, "a", 0},
		{d, "aa", 0},
		{d, "aaab", 7},
		{d, "abx", -1},
		{d, "abxc", -1},
		{d, "abxcaa", 0},
		{d, "abxcab", 7},
		// No successor at the first, a middle and the last byte.
		{d, "b", -1},
		{d, "baa", -1},
		{d, "\x00a", -1},
		{d, "aaxa", -1},
		{d, "aacab", -1},
		{d, "abxb", -1},
		{d, "aac", -1},
		{d, "ab\xff", -1},
		{d, "a\x00", -1},
		{ends, "", 3},
		{ends, "a", 3},
		{ends, "\x01\xfe", 3},
		{ends, "\xff", 0},
		{ends, "\x00", math.MaxInt},
		{ends, "a\x00", math.MaxInt},
		{ends, "aa\xff", 0},
		{ends, "\xff\xff", math.MaxInt},
		{ends, "\xff\x00", 0},
		{ends, "\xff\x00\x00\xff", math.MaxInt},
		{ends, "\xffa", -1},
		{ends, "\xffa\xff", -1},
		{ends, "\x00\x00", -1},
		{ends, "\xff\xff\xff", -1},
		{ends, "\u00ff", 3}, // bytes, not characters
		// One state.
		{filled(1, 1), "", -1},
		{filled(1, 1), "a", -1},
		{automaton(classes(), []int{0}, []int{-1}), "", 0},
		{automaton(classes(), []int{0}, []int{-1}), "\x00", -1},
		{automaton(classes(), []int{6}, []int{0}), "", 6},
		{automaton(classes(), []int{6}, []int{0}), "abc", 6},
		// A number behind the last state that accepts does not count, nor one before it.
		{automaton(classes("a"), []int{5, -1}, []int{-1, 1}, []int{-1, 0}), "a", -1},
		{automaton(classes("a"), []int{5, -1}, []int{-1, 1}, []int{-1, 0}), "aa", 5},
		{automaton(classes("a"), []int{5, -1}, []int{-1, 1}, []int{-1, 0}), "ab", -1},
	} {
		checkRun(t, x.d, x.s, x.want)
	}
}

func TestRunByEveryByte(t *testing.T) { // P10.1
	for b := range 256 {
		one := string([]byte{byte(b)})
		d := automaton(classes(one), []int{-1, 4, 9}, []int{2, 1}, []int{-1, 2}, []int{1, -1})
		for c := range 256 {
			s := string([]byte{byte(c)})
			if b == c {
				checkRun(t, d, s, 4)
				checkRun(t, d, s+s, 9)
				checkRun(t, d, s+s+s, -1)
				continue
			}
			checkRun(t, d, s, 9)
			checkRun(t, d, s+s, 4)
			checkRun(t, d, s+one, -1)
			checkRun(t, d, one+s, -1)
		}
	}
}

func TestRunOfManyAutomata(t *testing.T) { // P10.1
	random := rand.New(rand.NewSource(1))
	for range 5000 {
		d := randomDFA(random, 6, 5)
		if !dfa.Valid(d) {
			t.Fatalf("not valid: %s", show(d))
		}
		for range 10 {
			s := randomString(random, 9)
			checkRun(t, d, s, result(d, s))
		}
	}
}

func TestRunOfLongStrings(t *testing.T) { // P10.1
	d := filled(api.MaxStates, 2)
	d.Class['a'] = 1
	for state, row := range d.Next {
		row[0], row[1] = -1, (state+1)%api.MaxStates
		d.Accept[state] = state
	}
	for _, n := range []int{1, 499, 500, 501, 1000000} {
		checkRun(t, d, strings.Repeat("a", n), n%500)
		checkRun(t, d, strings.Repeat("a", n)+"b", -1)
	}
}

// Rule 5: the arguments remain as they are. The rules of the language: a result has memory of its own.
func TestMemory(t *testing.T) {
	d := automaton(classes("a", "b", "b"), []int{-1, 3, 3, -1}, []int{-1, 1, 2, 3}, []int{1, 2, -1, 3}, []int{2, 1, -1, 3}, []int{3, 3, 3, 3})
	d.Next = append(d.Next, []int{0, 0, 0, 0})[:4]
	d.Accept = append(d.Accept, 5)[:4]
	before, spare := copyOf(d), slices.Clone(d.Next[:5])
	n := source([]int{-1, 2, 0}, on(0, 1, "ab"), silent(1, 2), on(2, 0, "b"))
	arcs, accept := slices.Clone(n.Arcs), slices.Clone(n.Accept)
	dfa.Valid(d)
	dfa.Run(d, "ab")
	dfa.Difference(d, before)
	made, _ := dfa.Determinize(n)
	for _, m := range []api.DFA{dfa.Minimize(d), dfa.Minimize(made), made} {
		want := copyOf(m)
		spoil(m.Class, want.Class, t)
		for i, row := range m.Next {
			spoil(row, want.Next[i], t)
		}
		spoil(m.Accept, want.Accept, t)
	}
	if !equalAutomata(d, before) || !slices.EqualFunc(d.Next[:5], spare, slices.Equal[[]int]) || d.Accept[:5][4] != 5 {
		t.Error("an automaton is changed, or shared with a result")
	}
	if !slices.Equal(n.Arcs, arcs) || !slices.Equal(n.Accept, accept) {
		t.Error("a nondeterministic automaton is changed, or shared with a result")
	}
}

// spoil overwrites l, which must not have been overwritten before, with its spare capacity.
func spoil(l, want []int, t *testing.T) {
	t.Helper()
	if !slices.Equal(l, want) {
		t.Error("two slices of a result share memory")
	}
	l = l[:cap(l)]
	for i := range l {
		l[i] = -7
	}
}

// The results for automata that are not valid are unspecified, but there is one.
func TestInvalidAutomata(t *testing.T) {
	good := filled(2, 1)
	bad := []api.DFA{
		{},
		{Class: make([]int, 256)},
		{Class: make([]int, 255), Next: [][]int{{0}}, Accept: []int{0}},
		{Class: make([]int, 256), Next: [][]int{nil}, Accept: []int{0}},
		{Class: make([]int, 256), Next: [][]int{{0}}},
		{Class: make([]int, 256), Next: [][]int{{1}}, Accept: []int{0}},
		{Class: make([]int, 256), Next: [][]int{{-2}}, Accept: []int{0}},
		{Class: make([]int, 256), Next: [][]int{{0}}, Accept: []int{-2}},
		{Class: make([]int, 256), Next: [][]int{{0, 1}, {0}}, Accept: []int{0, 0}},
		{Class: slices.Repeat([]int{1}, 256), Next: [][]int{{0}}, Accept: []int{0}},
		{Class: slices.Repeat([]int{-1}, 256), Next: [][]int{{0}}, Accept: []int{0}},
		filled(501, 1),
	}
	for _, d := range bad {
		dfa.Run(d, "")
		dfa.Run(d, "ab")
		dfa.Minimize(d)
		for _, other := range append(bad, good) {
			dfa.Difference(d, other)
			dfa.Difference(other, d)
		}
	}
}
