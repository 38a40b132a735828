package dfa_test

import (
	"fmt"
	"math"
	"math/rand"
	"slices"
	"strings"
	"testing"

	"emendate/api"
	"emendate/dfa"
	"emendate/nfa"
	"emendate/regex"
)

// determinize returns the deterministic automaton of n, which must be valid.
func determinize(t *testing.T, n api.NFA) api.DFA {
	t.Helper()
	d, err := dfa.Determinize(n)
	if err != api.OK {
		t.Fatalf("P10.2: %.200s: error %d", fmt.Sprint(n), err)
	}
	if !dfa.Valid(d) {
		t.Fatalf("P10.2: %.200s: not valid: %s", fmt.Sprint(n), show(d))
	}
	return d
}

// checkDeterminize compares the runs on the given strings.
func checkDeterminize(t *testing.T, n api.NFA, l []string) {
	t.Helper()
	d := determinize(t, n)
	for _, s := range l {
		if got, want := dfa.Run(d, s), nfa.Run(n, s); got != want {
			t.Fatalf("P10.2: %.200s: Run(%q): %d, want %d", fmt.Sprint(n), s, got, want)
		}
	}
}

func checkError(t *testing.T, what string, n api.NFA, want api.Errno) {
	t.Helper()
	d, err := dfa.Determinize(n)
	if err != want {
		t.Errorf("P10.2: %s: error %d, want %d", what, err, want)
	}
	if err != api.OK && !equalAutomata(d, api.DFA{}) {
		t.Errorf("P10.2: %s: an automaton together with error %d", what, err)
	}
}

func TestDeterminize(t *testing.T) { // P10.2
	for _, x := range []struct {
		n     api.NFA
		wants map[string]int
	}{
		// No arcs.
		{source([]int{-1}), map[string]int{"": -1, "a": -1}},
		{source([]int{4}), map[string]int{"": 4, "a": -1, "\x00": -1, "\xff": -1}},
		// Several states at once, of which some accept.
		{source([]int{-1, -1, 4}, on(0, 0, "ab"), on(0, 1, "a"), on(1, 2, "b")), map[string]int{"": -1, "ab": 4, "aab": 4, "aba": -1, "abc": -1, "abab": 4}},
		{source([]int{-1, 7, 3, 5, -1}, on(0, 1, "a"), on(0, 2, "ab"), on(0, 3, "abc"), on(0, 4, "abcd")), map[string]int{"": -1, "a": 3, "b": 3, "c": 5, "d": -1, "e": -1, "aa": -1}},
		{source([]int{9, 0, math.MaxInt, -1}, on(0, 2, "ab"), on(0, 1, "a"), on(2, 3, "c"), on(2, 0, "b")), map[string]int{"": 9, "a": 0, "b": math.MaxInt, "ab": 9, "bc": -1, "ac": -1, "bbb": math.MaxInt}},
		{source([]int{2, 2}, on(0, 1, "a"), on(1, 1, "a"), on(0, 0, "a")), map[string]int{"": 2, "a": 2, "aa": 2, "b": -1}},
		// Sets that overlap in some bytes.
		{source([]int{-1, 1, 2, 3}, on(0, 1, "abcd"), on(0, 2, "cdef"), on(0, 3, "dbfh")), map[string]int{"a": 1, "b": 1, "c": 1, "d": 1, "e": 2, "f": 2, "h": 3, "g": -1, "ab": -1}},
		{source([]int{-1, 3, 2}, onAll(0, 1), on(0, 2, "\x00\xff"), onAll(2, 2)), map[string]int{"\x00": 2, "\xff": 2, "\x01": 3, "\xfe": 3, "\x00a": 2, "a\x00": -1}},
		// Epsilon transitions, from the start, behind bytes and before them.
		{source([]int{-1, -1, 6}, silent(0, 1), silent(1, 2)), map[string]int{"": 6, "a": -1}},
		{source([]int{-1, 8, 6}, silent(0, 1), silent(1, 2)), map[string]int{"": 6}},
		{source([]int{-1, -1, -1, 1}, on(0, 1, "a"), silent(1, 2), silent(2, 3), on(3, 0, "b")), map[string]int{"": -1, "a": 1, "ab": -1, "aba": 1}},
		{source([]int{0, -1, -1, -1}, silent(0, 3), silent(3, 1), on(1, 2, "x"), silent(2, 0)), map[string]int{"": 0, "x": 0, "xx": 0, "xy": -1}},
		// Cycles of epsilon transitions.
		{source([]int{-1, -1, 5}, silent(0, 1), silent(1, 2), silent(2, 0), on(1, 1, "a")), map[string]int{"": 5, "a": 5, "aa": 5, "b": -1}},
		{source([]int{-1, 5}, silent(0, 0), silent(1, 1), on(0, 1, "a"), on(0, 1, "a")), map[string]int{"": -1, "a": 5, "aa": -1}},
		{source([]int{-1, -1, -1, 2}, silent(0, 1), silent(1, 0), on(1, 2, "a"), silent(2, 3), silent(3, 2), on(3, 1, "b")), map[string]int{"": -1, "a": 2, "ab": -1, "aba": 2, "b": -1}},
		// Arcs with the empty set, and states that are not reachable.
		{source([]int{-1, 0, 1}, on(0, 1, ""), silent(2, 1), on(2, 0, "a")), map[string]int{"": -1, "a": -1}},
		// Another start state.
		{api.NFA{States: 3, Start: 2, Arcs: []api.NFAArc{on(0, 1, "a"), on(2, 1, "b"), silent(1, 0)}, Accept: []int{3, -1, -1}}, map[string]int{"": -1, "b": 3, "ba": 3, "a": -1}},
		{api.NFA{States: 2, Start: 1, Accept: []int{3, 4}}, map[string]int{"": 4}},
		// No state accepts.
		{source(silence(3), on(0, 1, "a"), silent(1, 2), on(2, 0, "b")), map[string]int{"": -1, "a": -1, "ab": -1}},
	} {
		d := determinize(t, x.n)
		for s, want := range x.wants {
			if got := dfa.Run(d, s); got != want {
				t.Errorf("P10.2: %v: Run(%q): %d, want %d", x.n, s, got, want)
			}
		}
		checkDeterminize(t, x.n, allStrings("\x00abx\xff", 4))
	}
}

func TestDeterminizeEveryByte(t *testing.T) { // P10.2
	for b := range 256 {
		one := string([]byte{byte(b)})
		others := onAll(0, 2)
		for i := range others.Set {
			others.Set[i] &^= bytesOf(one)[i]
		}
		n := source([]int{-1, 5, 3, 4}, on(0, 1, one), others, on(1, 3, one), on(2, 1, one))
		d := determinize(t, n)
		for c := range 256 {
			s, want, more := string([]byte{byte(c)}), 3, 5
			if b == c {
				want, more = 5, 4
			}
			if got := dfa.Run(d, s); got != want {
				t.Errorf("P10.2: byte %d: Run(%q): %d, want %d", b, s, got, want)
			}
			if got := dfa.Run(d, s+one); got != more {
				t.Errorf("P10.2: byte %d: Run(%q): %d, want %d", b, s+one, got, more)
			}
			if got := dfa.Run(d, one+s); b != c && got != -1 {
				t.Errorf("P10.2: byte %d: Run(%q): %d, want -1", b, one+s, got)
			}
		}
	}
}

// All epsilon transitions between three states, beside arcs with bytes.
func TestDeterminizeAllEpsilonTransitions(t *testing.T) { // P10.2
	l := allStrings("abc", 4)
	for chosen := range 1 << 9 {
		n := source([]int{2, 1, 0}, on(0, 1, "a"), on(1, 2, "ab"), on(2, 0, "b"))
		for i := range 9 {
			if chosen>>i&1 == 1 {
				n.Arcs = append(n.Arcs, silent(i%3, i/3))
			}
		}
		checkDeterminize(t, n, l)
		slices.Reverse(n.Arcs)
		n.Start = 1
		checkDeterminize(t, n, l)
	}
}

func TestDeterminizeManyAutomata(t *testing.T) { // P10.2
	random := rand.New(rand.NewSource(2))
	for range 4000 {
		n := randomNFA(random, 8, 16)
		l := allStrings("ab", 3)
		for range 20 {
			l = append(l, randomString(random, 10))
		}
		checkDeterminize(t, n, l)
	}
}

// reachableSets returns the number of nonempty sets that the subset construction reaches, found with layer 9's Closure and Step, or some number above most.
func reachableSets(n api.NFA, bytes string, most int) int {
	sets := [][]int{nfa.Closure(n, []int{n.Start})}
	known := map[string]bool{fmt.Sprint(sets[0]): true}
	for i := 0; i < len(sets) && len(sets) <= most; i++ {
		for k := range len(bytes) {
			s := nfa.Step(n, sets[i], bytes[k])
			if len(s) > 0 && !known[fmt.Sprint(s)] {
				known[fmt.Sprint(s)] = true
				sets = append(sets, s)
			}
		}
	}
	return len(sets)
}

// Random automata, of which many have hundreds of sets and some too many.
func TestDeterminizeLimitOfManyAutomata(t *testing.T) { // P10.2
	random := rand.New(rand.NewSource(3))
	within, beyond := 0, 0
	for range 150 {
		n := source(silence(22+random.Intn(7)), silent(3, 7))
		n.Accept[5] = 0
		for range 3 * n.States {
			n.Arcs = append(n.Arcs, on(random.Intn(n.States), random.Intn(n.States), []string{"a", "b"}[random.Intn(2)]))
		}
		sets := reachableSets(n, "abc", api.MaxStates)
		want := api.OK
		if sets > api.MaxStates {
			want = api.ErrLimit
		}
		checkError(t, fmt.Sprint(sets, " sets of ", n), n, want)
		switch {
		case want != api.OK:
			beyond++
		case sets > 100:
			within++
			checkDeterminize(t, n, allStrings("abc", 4))
		}
	}
	if within < 20 || beyond < 10 {
		t.Errorf("only %d automata with many sets and %d with too many", within, beyond)
	}
}

// path returns an automaton whose states form a path: each leads to the next by the given bytes.
func path(states int, bytes string) api.NFA {
	n := source(silence(states))
	for state := range states - 1 {
		n.Arcs = append(n.Arcs, on(state, state+1, bytes))
	}
	n.Accept[states-1] = 1
	return n
}

func TestDeterminizeLimit(t *testing.T) { // P10.2
	const most = api.MaxStates
	for _, more := range []int{-1, 0, 1, 2, 500, 1000, 1500} {
		states, want := most+more, api.OK
		if more > 0 {
			want = api.ErrLimit
		}
		checkError(t, fmt.Sprint("a path of ", states), path(states, "a"), want)
		checkError(t, fmt.Sprint("a path of ", states, " by several bytes"), path(states, "\x00ac\xff"), want)
		cycle := path(states, "")
		for state := range states { // without the empty set
			cycle.Arcs = append(cycle.Arcs, onAll(state, (state+1)%states))
		}
		checkError(t, fmt.Sprint("a cycle of ", states), cycle, want)
		back := path(states, "")
		back.Start = states - 1
		for state := range states - 1 {
			back.Arcs = append(back.Arcs, on(state+1, state, "a"))
		}
		checkError(t, fmt.Sprint("a path back of ", states), back, want)
		tree := path(states, "")
		for state := range states - 1 { // the last states found lead nowhere
			b := []byte{byte(state % 16)}
			tree.Arcs = append(tree.Arcs, on(state/16, state+1, string(b)))
		}
		checkError(t, fmt.Sprint("a tree of ", states), tree, want)
	}
	checkDeterminize(t, path(most, "ab"), []string{"", strings.Repeat("a", most-2), strings.Repeat("ab", (most-1)/2) + "a", strings.Repeat("a", most), strings.Repeat("a", most-2) + "c"})
}

// What counts are the sets that are reached, not the states.
func TestDeterminizeLimitCountsSets(t *testing.T) { // P10.2
	const most = api.MaxStates
	for _, states := range []int{most - 1, most, most + 1} {
		want := api.OK
		if states > most {
			want = api.ErrLimit
		}
		spare := path(states, "a") // with states that are not reachable
		for len(spare.Accept) < 4*most {
			spare.Arcs = append(spare.Arcs, on(spare.States, 0, "a"), silent(spare.States, 1), on(spare.States, spare.States, "b"))
			spare.Accept = append(spare.Accept, 0)
			spare.States++
		}
		checkError(t, fmt.Sprint("a path of ", states, " and other states"), spare, want)
		twins := source(silence(3 * states)) // three states at a time, in cycles of epsilon transitions
		for state := range states {
			a, b, c := state, state+states, state+2*states
			twins.Arcs = append(twins.Arcs, silent(a, b), silent(b, c), silent(c, a))
			if state < states-1 { // each by a byte of its own, and by one that all three have
				twins.Arcs = append(twins.Arcs, on(a, a+1, "ad"), on(b, b+1, "bd"), on(c, c+1, "cd"))
			}
		}
		checkError(t, fmt.Sprint("a path of ", states, " cycles"), twins, want)
		if want == api.OK {
			checkDeterminize(t, twins, []string{strings.Repeat("abcd", states/4), strings.Repeat("d", states), "e"})
		}
	}
	// Strings with an a at the ninth or tenth place from the end: 2^8 and 2^9 sets of few states.
	for _, back := range []int{8, 9} {
		n := source(silence(back+1), on(0, 0, "ab"), on(0, 1, "a"))
		for state := 1; state < back; state++ {
			n.Arcs = append(n.Arcs, on(state, state+1, "ab"))
		}
		n.Accept[back] = 0
		want := api.OK
		if back == 9 {
			want = api.ErrLimit
		}
		checkError(t, fmt.Sprint("a ", back, " places back"), n, want)
	}
	all := source(silence(4 * most)) // one set of all states
	for state := range all.States {
		all.Arcs = append(all.Arcs, silent(state, (state+1)%all.States), on(state, (7*state)%all.States, "a"))
	}
	all.Accept[4*most-1] = 3
	checkError(t, "a cycle of epsilon transitions", all, api.OK)
	checkDeterminize(t, all, []string{"", "a", "aaaa", "ab"})
}

func TestDeterminizeRejectsInvalidAutomata(t *testing.T) { // P10.2
	loud := silent(0, 1)
	loud.Set = bytesOf("a")
	last := path(2000, "a")
	last.Arcs = append(last.Arcs, on(0, 2000, "a"))
	for i, n := range []api.NFA{
		{},
		{States: -1},
		{States: math.MaxInt},
		path(2001, "a"),
		last, // too many sets, too
		{States: 2, Accept: []int{0}},
		{States: 2, Accept: []int{0, 0, 0}},
		{States: 2, Start: 2, Accept: []int{0, 0}},
		{States: 2, Start: -1, Accept: []int{0, 0}},
		{States: 2, Accept: []int{0, -2}},
		source(silence(2), silent(0, 2)),
		source(silence(2), silent(2, 0)),
		source(silence(2), on(0, -1, "a")),
		source(silence(2), on(-1, 0, "a")),
		source(silence(2), on(0, 1, "a"), loud),
	} {
		checkError(t, fmt.Sprint("invalid automaton ", i), n, api.ErrArg)
	}
}

// Position automata of lists of expressions, as for tokens.
func TestDeterminizeExpressions(t *testing.T) { // P10.2
	for _, texts := range [][]string{
		{"a*", "ab"},
		{"if", "[a-z]+", "[0-9]+", "[ \\n]+"},
		{"\"([^\"\\\\]|\\\\.)*\"", "'[^']*'", "\"", "."},
		{"(a|b)*a(a|b)(a|b)(a|b)", "b*", "[^a]b"},
		{"abc", "abd", "ab?", "(abc)+d"},
	} {
		var l []api.Regex
		for _, text := range texts {
			r, at, err := regex.Parse(text)
			if err != api.OK {
				t.Fatalf("%q: error %d at %d", text, err, at)
			}
			l = append(l, r)
		}
		n, err := nfa.FromRegexes(l)
		if err != api.OK {
			t.Fatalf("%q: error %d", texts, err)
		}
		d := determinize(t, n)
		for _, s := range slices.Concat(allStrings("abdz\"\\", 4), []string{"if", "iff", "x1", "12", " \n", "\"a\\\"b\"", "'\x00\xff'", "abcabcd"}) {
			want := slices.IndexFunc(l, func(r api.Regex) bool { return regex.Match(r, s) })
			if got := dfa.Run(d, s); got != want {
				t.Errorf("P10.2: %q: Run(%q): %d, want %d", texts, s, got, want)
			}
		}
	}
}
