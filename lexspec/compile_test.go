package lexspec_test

import (
	"fmt"
	"math/rand"
	"slices"
	"strings"
	"testing"

	"emendate/api"
	"emendate/dfa"
	"emendate/lexspec"
	"emendate/nfa"
	"emendate/regex"
)

// compile returns the automaton of spec, which must be valid.
func compile(t *testing.T, spec api.LexSpec) api.DFA {
	t.Helper()
	d, err := lexspec.Compile(spec)
	if err != api.OK {
		t.Fatalf("P11.2: %s: Compile: error %d", show(spec), err)
	}
	return d
}

// classes returns the classes by byte: the bytes of the first group have class 1, those of the second class 2, all others class 0.
func classes(groups ...string) []int {
	l := make([]int, 256)
	for i, group := range groups {
		for _, b := range []byte(group) {
			l[b] = i + 1
		}
	}
	return l
}

func equalAutomata(a, b api.DFA) bool {
	return slices.Equal(a.Class, b.Class) && slices.EqualFunc(a.Next, b.Next, slices.Equal[[]int]) && slices.Equal(a.Accept, b.Accept)
}

// showAutomaton writes an automaton without the bytes of class 0.
func showAutomaton(d api.DFA) string {
	class := map[string]int{}
	for b, c := range d.Class {
		if c != 0 {
			class[fmt.Sprintf("%q", string([]byte{byte(b)}))] = c
		}
	}
	return fmt.Sprint("{", class, d.Next, d.Accept, "}")
}

func TestCompile(t *testing.T) { // P11.2
	for _, x := range []struct {
		spec   api.LexSpec
		class  []int
		next   [][]int
		accept []int
	}{
		{of(plain("a", "a", "a")), classes("a"), [][]int{{-1, 1}, {-1, -1}}, []int{-1, 0}},
		{of(plain("a", "a+", "a")), classes("a"), [][]int{{-1, 1}, {-1, 1}}, []int{-1, 0}},
		{of(keyword("a", "aaa|aaa", "aaa")), classes("a"), [][]int{{-1, 1}, {-1, 2}, {-1, 3}, {-1, -1}}, []int{-1, -1, -1, 0}},
		// Two definitions, with a state for each or with common ones.
		{of(plain("b", "b", "b"), skip("a", "a", "a")), classes("a", "b"), [][]int{{-1, 1, 2}, {-1, -1, -1}, {-1, -1, -1}}, []int{-1, 1, 0}},
		{of(plain("b", "b+", "b"), skip("a", "a+", "a")), classes("a", "b"), [][]int{{-1, 1, 2}, {-1, 1, -1}, {-1, -1, 2}}, []int{-1, 1, 0}},
		{of(plain("ca", "(c|d)a", "da"), plain("cb", "[cd]b", "cb")), classes("a", "b", "cd"), [][]int{{-1, -1, -1, 1}, {-1, 2, 3, -1}, {-1, -1, -1, -1}, {-1, -1, -1, -1}}, []int{-1, -1, 0, 1}},
		// The earlier one takes precedence.
		{of(keyword("if", "if", "if"), plain("word", "[a-z]+", "x")), classes("abcdeghjklmnopqrstuvwxyz", "f", "i"),
			[][]int{{-1, 1, 1, 2}, {-1, 1, 1, 1}, {-1, 1, 3, 1}, {-1, 1, 1, 1}}, []int{-1, 1, 1, 0}},
		{of(plain("x", "ab|c", "ab"), plain("y", "a[bc]|c|d", "ac")), classes("a", "b", "c", "d"),
			[][]int{{-1, 1, -1, 2, 3}, {-1, -1, 2, 3, -1}, {-1, -1, -1, -1, -1}, {-1, -1, -1, -1, -1}}, []int{-1, -1, 0, 1}},
		{of(plain("even", "(aa)+", "aa"), plain("some", "a+", "a")), classes("a"), [][]int{{-1, 1}, {-1, 2}, {-1, 1}}, []int{-1, 1, 0}},
		// All bytes lead somewhere.
		{of(plain("any", ".", "\x00"), plain("line", "\\n", "\n")), classes("\n"), [][]int{{1, 2}, {-1, -1}, {-1, -1}}, []int{-1, 0, 1}},
		{of(plain("not", "[^a]+", "\xff"), plain("a", "a", "a")), classes("a"), [][]int{{1, 2}, {1, -1}, {-1, -1}}, []int{-1, 0, 1}},
		// A comment up to the end of the line.
		{of(skip("note", "#[^\\n]*", "#"), skip("line", "\\n", "\n")), classes("\n", "#"), [][]int{{-1, 1, 2}, {-1, -1, -1}, {2, -1, 2}}, []int{-1, 1, 0}},
	} {
		want := api.DFA{Class: x.class, Next: x.next, Accept: x.accept}
		if got := compile(t, x.spec); !equalAutomata(got, want) {
			t.Errorf("P11.2: %s: %s, want %s", show(x.spec), showAutomaton(got), showAutomaton(want))
		}
	}
}

// What else a specification says makes no difference.
func TestCompilePatternsOnly(t *testing.T) { // P11.2
	spec := of(plain("a", "ab*", "ab"), plain("b", "(ab|c)+", "cab"), plain("c", "d", "d"))
	want := compile(t, spec)
	other := api.LexSpec{Defs: slices.Clone(spec.Defs), Layout: true, Misspelling: 1000, Unclosed: 1}
	for i, kind := range []int{api.TokenSkip, api.TokenSkip, api.TokenKeyword} {
		other.Defs[i].Name += "_1"
		other.Defs[i].Kind = kind
		other.Defs[i].Close = "ab~"
	}
	other.Defs[0].Sample = "abbb"
	other.Defs[1].Sample = "c"
	other.Defs[1].Pattern = "(c|ab)((ab)|c())*"
	if got := compile(t, other); !equalAutomata(got, want) {
		t.Errorf("P11.2: %s: %s, want %s", show(other), showAutomaton(got), showAutomaton(want))
	}
	slices.Reverse(other.Defs)
	if got := compile(t, other); equalAutomata(got, want) {
		t.Errorf("P11.2: %s: %s", show(other), showAutomaton(got))
	}
}

func TestCompileHandsOnErrors(t *testing.T) { // P11.2
	for _, f := range faults() {
		spec := fourKeywords()
		f.make(&spec, 2)
		d, err := lexspec.Compile(spec)
		if err != f.err || d.Class != nil || d.Next != nil || d.Accept != nil {
			t.Errorf("P11.2: %s: error %d, want %d, and %s", show(spec), err, f.err, showAutomaton(d))
		}
	}
	for _, spec := range []api.LexSpec{{}, of(letters(41)...)} {
		if d, err := lexspec.Compile(spec); err != api.ErrLimit || d.Next != nil {
			t.Errorf("P11.2: %s: error %d, want %d, and %s", show(spec), err, api.ErrLimit, showAutomaton(d))
		}
	}
}

// checkMinimal compares an automaton with what layer 10 makes of the patterns, and with the properties of a minimal automaton.
func checkMinimal(t *testing.T, spec api.LexSpec, d api.DFA) {
	t.Helper()
	n, _ := nfa.FromRegexes(parseAll(t, spec))
	e, _ := dfa.Determinize(n)
	if m := dfa.Minimize(e); !equalAutomata(d, m) {
		t.Errorf("P11.2: %s: %s, want %s", show(spec), showAutomaton(d), showAutomaton(m))
	}
	if !dfa.Valid(d) {
		t.Fatalf("P11.2: %s: not valid: %s", show(spec), showAutomaton(d))
	}
	least := leastBytes(d)
	if !slices.IsSorted(least) || len(least) != len(d.Next[0]) {
		t.Errorf("P11.2: %s: the classes of %s begin with %d", show(spec), showAutomaton(d), least)
	}
	for class := range d.Next[0] {
		for other := range class {
			if !slices.ContainsFunc(d.Next, func(row []int) bool { return row[class] != row[other] }) {
				t.Errorf("P11.2: %s: the classes %d and %d of %s are one", show(spec), other, class, showAutomaton(d))
			}
		}
	}
	if l := visited(d, 0); !slices.IsSorted(l) || len(l) != len(d.Next) {
		t.Errorf("P11.2: %s: the states of %s are visited in the order %d", show(spec), showAutomaton(d), l)
	}
	checkStates(t, spec, d)
}

// checkStates checks that all states are live and that no two of them are equal.
func checkStates(t *testing.T, spec api.LexSpec, d api.DFA) {
	t.Helper()
	for state := range d.Next {
		if !slices.ContainsFunc(visited(d, state), func(to int) bool { return d.Accept[to] >= 0 }) {
			t.Errorf("P11.2: %s: state %d of %s is not live", show(spec), state, showAutomaton(d))
		}
		for other := range state {
			if _, differ := dfa.Difference(startingAt(d, state), startingAt(d, other)); !differ {
				t.Errorf("P11.2: %s: the states %d and %d of %s are equal", show(spec), other, state, showAutomaton(d))
			}
		}
	}
}

// leastBytes returns the least byte of each class in the order of the classes, or -1.
func leastBytes(d api.DFA) []int {
	var l []int
	for class := range d.Next[0] {
		l = append(l, slices.Index(d.Class, class))
	}
	return l
}

// visited returns the states that can be reached from one, in the order of a breadth-first search.
func visited(d api.DFA, start int) []int {
	l := []int{start}
	for i := 0; i < len(l); i++ {
		for _, to := range d.Next[l[i]] {
			if to >= 0 && !slices.Contains(l, to) {
				l = append(l, to)
			}
		}
	}
	return l
}

// startingAt returns an automaton that does what d does from a state on: the states 0 and start have changed places.
func startingAt(d api.DFA, start int) api.DFA {
	place := func(state int) int {
		switch state {
		case 0:
			return start
		case start:
			return 0
		}
		return state
	}
	e := api.DFA{Class: d.Class}
	for state := range d.Next {
		var row []int
		for _, to := range d.Next[place(state)] {
			row = append(row, place(to))
		}
		e.Next = append(e.Next, row)
		e.Accept = append(e.Accept, d.Accept[place(state)])
	}
	return e
}

func TestCompileMinimal(t *testing.T) { // P11.2
	eachValidSpec(t, func(spec api.LexSpec) { checkMinimal(t, spec, compile(t, spec)) })
}

// The automaton is followed together with the derivatives of the patterns, which tell the kinds of all strings. A pair of a state and derivatives is looked at once.
func TestCompileAllStrings(t *testing.T) { // P11.2
	eachValidSpec(t, func(spec api.LexSpec) {
		d := compile(t, spec)
		type pair struct {
			state    int
			patterns []api.Regex
		}
		pairs := []pair{{0, parseAll(t, spec)}}
		known := map[string]bool{}
		for i := 0; i < len(pairs); i++ {
			p := pairs[i]
			accept := -1
			if p.state >= 0 {
				accept = d.Accept[p.state]
			}
			if want := slices.IndexFunc(p.patterns, regex.Nullable); accept != want {
				t.Fatalf("P11.2: %s: %s: state %d accepts %d, want %d", show(spec), showAutomaton(d), p.state, accept, want)
			}
			if p.state < 0 && !slices.ContainsFunc(p.patterns, func(r api.Regex) bool { return r.Kind != api.RxNone }) {
				continue
			}
			for _, b := range []byte("ab\x00 \n\"\\#=<0.fiwx)(\xff") {
				next := pair{-1, nil}
				if p.state >= 0 {
					next.state = d.Next[p.state][d.Class[b]]
				}
				for _, r := range p.patterns {
					next.patterns = append(next.patterns, regex.Derive(r, b))
				}
				if key := fmt.Sprint(next); !known[key] {
					known[key] = true
					pairs = append(pairs, next)
				}
			}
		}
	})
}

func TestCompileKindsOfStrings(t *testing.T) { // P11.2
	for _, x := range []struct {
		spec  api.LexSpec
		kinds map[string]int
	}{
		{validSpecs()[2], map[string]int{
			"while": 0, "whil": 2, "whiles": 2, "If": 2, "if": 1, "i": 2, "f": 2, "_": 2, "x9": 2, "9x": -1, "0": 3, "01": 3, "1.": -1, "1.5": 3, ".5": -1, "1.5.2": -1,
			`""`: 4, `"`: -1, `"a"`: 4, `"\"`: -1, `"\""`: 4, `"a""`: -1, "\"\n\"": -1, "\"\\\n\"": -1, "\"\x00\xff\"": 4, "+": 5, "==": 5, "=": 5, "<=": 5, "=<": -1, "===": -1,
			" ": 6, " \n\t ": 6, "\r": -1, "#": 7, "# #": 7, "#\n": -1, "#\xff": 7, "": -1, "while ": -1, " while": -1, "\x00": -1,
		}},
		{validSpecs()[3], map[string]int{"\n": 1, "a": 0, "\x00": 0, "\xff": 0, "": -1, "aa": -1, "\n\n": -1}},
		// Several patterns match: the least index counts, wherever it stands.
		{of(plain("a", "ab?c?", "ac"), plain("b", "a?bc?", "bc"), plain("c", "a?b?c", "c"), plain("d", "[abc]+", "cc")),
			map[string]int{"a": 0, "ab": 0, "ac": 0, "abc": 0, "b": 1, "bc": 1, "c": 2, "aa": 3, "abcc": 3, "ba": 3, "": -1, "abcd": -1}},
		{of(plain("d", "[abc][abc]*cc", "acc"), plain("a", "ab?c?", "a"), plain("b", "a?bc?", "b"), plain("c", "a?b?c+", "c")),
			map[string]int{"a": 1, "abc": 1, "bc": 2, "c": 3, "cc": 3, "ccc": 0, "abcc": 0, "acc": 0, "bcc": 0}},
	} {
		d := compile(t, x.spec)
		for s, want := range x.kinds {
			if kind := kindOf(parseAll(t, x.spec), s); kind != want {
				t.Fatalf("the kind of %q is %d, not %d", s, kind, want)
			}
			if got := dfa.Run(d, s); got != want {
				t.Errorf("P11.2: %s: the run on %q: %d, want %d", show(x.spec), s, got, want)
			}
		}
	}
}

// Specifications with as many definitions, or an automaton with as many states, as there can be.
func TestCompileLargeSpecifications(t *testing.T) { // P11.2
	d := compile(t, of(letters(40)...))
	for i, def := range letters(40) {
		if got := dfa.Run(d, def.Sample); got != i {
			t.Errorf("P11.2: the run on %q: %d, want %d", def.Sample, got, i)
		}
	}
	text := word(499)
	d = compile(t, of(keyword("w", text, text)))
	if len(d.Next) != 500 {
		t.Errorf("P11.2: %d states", len(d.Next))
	}
	for s, want := range map[string]int{text: 0, text[1:]: -1, text[:498]: -1, text + "a": -1, strings.ToUpper(text): -1} {
		if got := dfa.Run(d, s); got != want {
			t.Errorf("P11.2: the run on %q: %d, want %d", s, got, want)
		}
	}
	spec := of(plain("back", back(8), "abbbbbbb"), plain("other", "[ab]+", "b"))
	d = compile(t, spec)
	if len(d.Next) != 1+256 {
		t.Errorf("P11.2: %d states", len(d.Next))
	}
	random := rand.New(rand.NewSource(3))
	for range 500 {
		var s []byte
		for range random.Intn(30) {
			s = append(s, pick(random, byte('a'), 'b', 'b'))
		}
		want := -1
		switch {
		case len(s) >= 8 && s[len(s)-8] == 'a':
			want = 0
		case len(s) > 0:
			want = 1
		}
		if got := dfa.Run(d, string(s)); got != want {
			t.Errorf("P11.2: the run on %q: %d, want %d", s, got, want)
		}
	}
}

// A result that is changed changes no other one.
func TestResultsShareNothing(t *testing.T) { // P11.2, P11.3
	spec := validSpecs()[2]
	d, names := compile(t, spec), lexspec.Terms(spec)
	want := compile(t, spec)
	for i := range d.Class {
		d.Class[i] = 7
	}
	for _, row := range d.Next {
		for class := range row[:cap(row)] {
			row[:cap(row)][class] = 7
		}
	}
	clear(d.Accept)
	for i := range names[:cap(names)] {
		names[:cap(names)][i] = "other"
	}
	if got := compile(t, spec); !equalAutomata(got, want) {
		t.Errorf("P11.2: %s, want %s", showAutomaton(got), showAutomaton(want))
	}
	if names := lexspec.Terms(spec); names[0] != "while" || names[len(names)-1] != "dedent" {
		t.Errorf("P11.3: %q", names)
	}
	if !equalSpecs(copyOf(spec), copyOf(validSpecs()[2])) {
		t.Errorf("P11.3: %s", show(spec))
	}
}
