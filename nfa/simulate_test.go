package nfa_test

import (
	"math"
	"math/rand"
	"slices"
	"strings"
	"testing"

	"emendate/api"
	"emendate/nfa"
)

func checkClosure(t *testing.T, n api.NFA, states, want []int) {
	t.Helper()
	if got := nfa.Closure(n, states); !slices.Equal(got, want) {
		t.Errorf("P9.2: %v: Closure(%v): %v, want %v", n, states, got, want)
	}
}

func checkStep(t *testing.T, n api.NFA, states []int, b byte, want []int) {
	t.Helper()
	if got := nfa.Step(n, states, b); !slices.Equal(got, want) {
		t.Errorf("P9.2: %v: Step(%v, %q): %v, want %v", n, states, b, got, want)
	}
}

func checkRun(t *testing.T, n api.NFA, s string, want int) {
	t.Helper()
	if got := nfa.Run(n, s); got != want {
		t.Errorf("P9.2: %v: Run(%.40q): %d, want %d", n, s, got, want)
	}
}

func TestClosure(t *testing.T) { // P9.2
	chain := automaton(5, silent(0, 1), silent(1, 2), silent(2, 3), silent(3, 4))
	back := automaton(5, silent(4, 3), silent(3, 2), silent(2, 1), silent(1, 0))
	zigzag := automaton(6, silent(5, 1), silent(3, 0), silent(1, 4), silent(4, 3))
	cycle := automaton(5, silent(2, 0), silent(0, 3), silent(3, 2), silent(3, 1))
	loops := automaton(3, silent(0, 0), silent(1, 1), silent(1, 1), silent(1, 2))
	fork := automaton(6, silent(0, 2), silent(0, 4), silent(2, 5), silent(4, 5), silent(5, 1))
	bytes := automaton(5, on(0, 1, "ab"), silent(1, 2), on(2, 3, ""), silent(3, 4), api.NFAArc{From: 2, To: 4, Set: allBytes()})
	for _, x := range []struct {
		n            api.NFA
		states, want []int
	}{
		{chain, nil, nil},
		{chain, []int{}, nil},
		{chain, []int{0}, []int{0, 1, 2, 3, 4}},
		{chain, []int{3}, []int{3, 4}},
		{chain, []int{4}, []int{4}},
		{chain, []int{4, 2}, []int{2, 3, 4}},
		{chain, []int{2, 4, 2, 4, 4}, []int{2, 3, 4}},
		{chain, []int{3, 1, 0, 2, 4}, []int{0, 1, 2, 3, 4}},
		{chain, []int{5}, nil},
		{chain, []int{-1}, nil},
		{chain, []int{-1, 3, 5}, []int{3, 4}},
		{chain, []int{math.MinInt, 9, 4, math.MaxInt, -2, 1 << 32}, []int{4}},
		{back, []int{4}, []int{0, 1, 2, 3, 4}},
		{back, []int{2}, []int{0, 1, 2}},
		{back, []int{0}, []int{0}},
		{back, []int{3, 1}, []int{0, 1, 2, 3}},
		{zigzag, []int{5}, []int{0, 1, 3, 4, 5}},
		{zigzag, []int{2, 4}, []int{0, 2, 3, 4}},
		{zigzag, []int{1, 5}, []int{0, 1, 3, 4, 5}},
		{cycle, []int{0}, []int{0, 1, 2, 3}},
		{cycle, []int{3}, []int{0, 1, 2, 3}},
		{cycle, []int{2, 4, 0}, []int{0, 1, 2, 3, 4}},
		{cycle, []int{1}, []int{1}},
		{loops, []int{0}, []int{0}},
		{loops, []int{1}, []int{1, 2}},
		{loops, []int{2, 0}, []int{0, 2}},
		{fork, []int{0}, []int{0, 1, 2, 4, 5}},
		{fork, []int{4, 2}, []int{1, 2, 4, 5}},
		{fork, []int{3}, []int{3}},
		{bytes, []int{0}, []int{0}},
		{bytes, []int{1}, []int{1, 2}},
		{bytes, []int{2}, []int{2}},
		{bytes, []int{3, 2, 0}, []int{0, 2, 3, 4}},
		{automaton(1), []int{0}, []int{0}},
		{automaton(1), []int{1, -1}, nil},
		{automaton(3), []int{2, 0, 1}, []int{0, 1, 2}},
	} {
		checkClosure(t, x.n, x.states, x.want)
		for shift := range x.n.Arcs { // the order of the arcs does not count
			n := x.n
			n.Arcs = slices.Concat(n.Arcs[shift:], n.Arcs[:shift])
			checkClosure(t, n, x.states, x.want)
			slices.Reverse(n.Arcs)
			checkClosure(t, n, x.states, x.want)
		}
	}
}

// All epsilon transitions between three states, and all lists of up to three states and numbers beside them.
func TestClosureOfSmallAutomata(t *testing.T) { // P9.2
	lists := [][]int{nil}
	for i := 0; i < len(lists) && len(lists[i]) < 3; i++ {
		for state := -1; state <= 3; state++ {
			lists = append(lists, append(slices.Clone(lists[i]), state))
		}
	}
	for chosen := range 1 << 9 {
		n := automaton(3)
		for i := range 9 {
			if chosen>>i&1 == 1 {
				n.Arcs = append(n.Arcs, silent(i%3, i/3))
			}
		}
		for _, l := range lists {
			checkClosure(t, n, l, reached(n, l, ""))
		}
	}
}

func TestStep(t *testing.T) { // P9.2
	n := automaton(7, on(0, 3, "ab"), on(0, 1, "a"), on(1, 3, "a\x00\xff"), silent(3, 5), silent(5, 2), silent(6, 0), on(2, 2, "c"), on(4, 4, ""))
	for _, x := range []struct {
		states []int
		b      byte
		want   []int
	}{
		{nil, 'a', nil},
		{[]int{0}, 'a', []int{1, 2, 3, 5}},
		{[]int{0}, 'b', []int{2, 3, 5}},
		{[]int{0}, 'c', nil},
		{[]int{0}, 0, nil},
		{[]int{1}, 'a', []int{2, 3, 5}},
		{[]int{1}, 'b', nil},
		{[]int{1}, 0, []int{2, 3, 5}},
		{[]int{1}, 255, []int{2, 3, 5}},
		{[]int{1}, 1, nil},
		{[]int{1}, 254, nil},
		{[]int{1, 0}, 'a', []int{1, 2, 3, 5}},
		{[]int{0, 1, 0}, 255, []int{2, 3, 5}},
		{[]int{2}, 'c', []int{2}},
		{[]int{3}, 'c', []int{2}}, // through epsilon transitions first
		{[]int{6}, 'a', []int{1, 2, 3, 5}},
		{[]int{6, 1, 9, -1}, 'b', []int{2, 3, 5}},
		{[]int{4}, 'a', nil},
		{[]int{7, -1}, 'a', nil},
		{[]int{6, 5, 4, 3, 2, 1, 0}, 'a', []int{1, 2, 3, 5}},
	} {
		checkStep(t, n, x.states, x.b, x.want)
		other := copyOf(n)
		slices.Reverse(other.Arcs)
		checkStep(t, other, x.states, x.b, x.want)
	}
	same := automaton(4, on(2, 3, "a"), on(1, 3, "a"), on(2, 3, "ab"), on(2, 1, "b"), on(2, 0, "b"))
	checkStep(t, same, []int{2, 1}, 'a', []int{3})
	checkStep(t, same, []int{2, 1}, 'b', []int{0, 1, 3})
}

func TestStepByEveryByte(t *testing.T) { // P9.2
	for b := range 256 {
		s := bytesOf(string([]byte{byte(b)}))
		others := allBytes()
		for i := range others {
			others[i] &^= s[i]
		}
		n := automaton(4, api.NFAArc{From: 0, To: 1, Set: s}, api.NFAArc{From: 0, To: 2, Set: others}, api.NFAArc{From: 0, To: 3, Set: allBytes()})
		for c := range 256 {
			want := []int{2, 3}
			if c == b {
				want = []int{1, 3}
			}
			checkStep(t, n, []int{0}, byte(c), want)
		}
	}
}

func TestRun(t *testing.T) { // P9.2
	ends := automaton(6, on(0, 1, "a"), on(0, 2, "a"), on(0, 3, "ab"), on(1, 4, "a"), silent(4, 5), on(4, 0, "\xff"))
	ends.Accept = []int{-1, 7, 3, 5, 0, math.MaxInt}
	started := automaton(4, silent(2, 1), silent(2, 3), on(1, 0, "x"))
	started.Start, started.Accept = 2, []int{-1, 4, -1, 2}
	most := automaton(2, on(0, 1, "a"), silent(1, 0))
	most.Accept = []int{math.MaxInt, math.MaxInt}
	for _, x := range []struct {
		n    api.NFA
		s    string
		want int
	}{
		{automaton(1), "", -1},
		{automaton(1), "a", -1},
		{api.NFA{States: 1, Accept: []int{0}}, "", 0},
		{api.NFA{States: 1, Accept: []int{6}}, "", 6},
		{api.NFA{States: 1, Accept: []int{6}}, "a", -1},
		{api.NFA{States: 2, Start: 1, Accept: []int{0, -1}}, "", -1},
		{ends, "", -1},
		{ends, "a", 3},
		{ends, "b", 5},
		{ends, "aa", 0},
		{ends, "ab", -1},
		{ends, "aab", -1},
		{ends, "aa\xff", -1},
		{ends, "aa\xffb", 5},
		{ends, "aa\xffaa", 0},
		{ends, "aa\xfea", -1},
		{started, "", 2},
		{started, "x", -1},
		{started, "y", -1},
		{most, "", math.MaxInt},
		{most, "aaa", math.MaxInt},
	} {
		checkRun(t, x.n, x.s, x.want)
	}
}

// The least number counts wherever its state is.
func TestRunFindsTheLeastNumber(t *testing.T) { // P9.2
	numbers := []int{-1, 0, 1, 8}
	for i := range 4 * 4 * 4 * 4 {
		l := []int{numbers[i&3], numbers[i>>2&3], numbers[i>>4&3], numbers[i>>6&3]}
		n := automaton(4, on(0, 2, "a"), on(0, 0, "a"), on(0, 1, "a"), silent(2, 3))
		n.Accept = l
		checkRun(t, n, "", l[0])
		checkRun(t, n, "b", -1)
		checkRun(t, n, "aa", accepted(n, []int{0, 1, 2, 3}))
	}
}

func TestRandomAutomata(t *testing.T) { // P9.2
	random := rand.New(rand.NewSource(1))
	for range 20000 {
		n := randomAutomaton(random, 8, 16)
		if !nfa.Valid(n) {
			t.Fatalf("not valid: %v", n)
		}
		l := randomStates(random, n)
		checkClosure(t, n, l, reached(n, l, ""))
		for _, b := range []byte("ab\x00\xffc") {
			checkStep(t, n, l, b, reached(n, l, string([]byte{b})))
		}
		s := randomString(random, 8)
		checkRun(t, n, s, accepted(n, reached(n, []int{n.Start}, s)))
	}
}

func TestLargeAutomata(t *testing.T) { // P9.2
	const most = 2000
	chain, back := automaton(most), automaton(most)
	for state := range most - 1 {
		chain.Arcs = append(chain.Arcs, silent(state, state+1), on(state, state, "a"))
		back.Arcs = append(back.Arcs, silent(state+1, state), on(most-1-state, state, "a"))
	}
	chain.Accept[most-1], back.Accept[0] = 1, 1
	var all []int
	for state := range most {
		all = append(all, state)
	}
	checkClosure(t, chain, []int{0}, all)
	checkClosure(t, chain, []int{most - 1, most, 1000}, all[1000:])
	checkClosure(t, back, []int{most - 1}, all)
	checkClosure(t, back, []int{0, 1000}, all[:1001])
	checkStep(t, chain, []int{1000}, 'a', all[1000:])
	checkStep(t, back, []int{most - 1}, 'a', all[:most-1])
	long := strings.Repeat("a", api.MaxText)
	checkRun(t, chain, long, 1)
	checkRun(t, chain, long+"b", -1)
	checkRun(t, chain, strings.Repeat("b", 1<<20), -1)
}

// Rule 5: the arguments remain as they are. The rules of the language: a result has memory of its own.
func TestMemory(t *testing.T) { // P9.2
	n := automaton(4, on(2, 0, "ab"), silent(1, 2), on(1, 3, "a"), silent(3, 1), silent(0, 3))
	n.Accept = []int{-1, 4, 2, 0}
	before := copyOf(n)
	states := []int{3, 9, 1, 1, -1, 0}
	for _, l := range [][]int{states, states[:2], states[2:4]} {
		nfa.Valid(n)
		closure, step := nfa.Closure(n, l), nfa.Step(n, l, 'a')
		nfa.Run(n, "ab")
		for i := range closure {
			closure[i] = 100
		}
		for i := range step {
			step[i] = 200
		}
		if !equalAutomata(n, before) || !slices.Equal(states, []int{3, 9, 1, 1, -1, 0}) {
			t.Fatalf("an argument is changed, or shared with the result: %v, %v", n, states)
		}
	}
}

// The results for automata that are not valid are unspecified, but there is one.
func TestInvalidAutomata(t *testing.T) {
	loud := silent(0, 1)
	loud.Set = bytesOf("a")
	for _, n := range []api.NFA{
		{},
		automaton(-1),
		automaton(2001),
		{States: math.MaxInt},
		{States: 2, Accept: []int{0}},
		{States: 2, Start: 2, Accept: []int{0, 0}},
		{States: 2, Start: -1, Accept: []int{0, 0}},
		{States: 2, Accept: []int{0, -2}},
		automaton(2, silent(0, 2)),
		automaton(2, silent(2, 0)),
		automaton(2, on(0, -1, "a")),
		automaton(2, on(-1, 0, "a")),
		automaton(2, loud),
	} {
		for _, l := range [][]int{nil, {0}, {0, 1, 2, -1}} {
			nfa.Closure(n, l)
			nfa.Step(n, l, 'a')
		}
		nfa.Run(n, "")
		nfa.Run(n, "aa")
	}
}
