package nfa_test

import (
	"fmt"
	"math/rand"
	"slices"
	"strings"
	"testing"

	"emendate/api"
	"emendate/nfa"
	"emendate/regex"
)

// fromRegexes returns the position automaton of l, which must be valid and equal that of the model.
func fromRegexes(t *testing.T, l []api.Regex) api.NFA {
	t.Helper()
	n, err := nfa.FromRegexes(l)
	if err != api.OK || !nfa.Valid(n) {
		t.Fatalf("P9.3: FromRegexes(%v): error %d, %v", l, err, n)
	}
	if want := positions(l); !equalAutomata(n, want) {
		t.Fatalf("P9.3: FromRegexes(%v): %v, want %v", l, n, want)
	}
	return n
}

// arcsOf writes the arcs of n as "0-1 1-2".
func arcsOf(n api.NFA) string {
	var l []string
	for _, a := range n.Arcs {
		l = append(l, fmt.Sprintf("%d-%d", a.From, a.To))
	}
	return strings.Join(l, " ")
}

func TestFromRegexes(t *testing.T) { // P9.3
	a, b, c, d, no, never := set("a"), set("b"), set("c"), set("d"), empty(), none()
	for _, x := range []struct {
		l      []api.Regex
		sets   string // the byte of each occurrence
		arcs   string
		accept []int
	}{
		{nil, "", "", []int{-1}},
		{[]api.Regex{}, "", "", []int{-1}},
		{[]api.Regex{star(a), concat(a, b)}, "aab", "0-1 0-2 1-1 2-3", []int{0, 0, -1, 1}},
		// One expression of one kind.
		{[]api.Regex{never}, "", "", []int{-1}},
		{[]api.Regex{no}, "", "", []int{0}},
		{[]api.Regex{a}, "a", "0-1", []int{-1, 0}},
		{[]api.Regex{concat(a, b)}, "ab", "0-1 1-2", []int{-1, -1, 0}},
		{[]api.Regex{concat(a, b, c)}, "abc", "0-1 1-2 2-3", []int{-1, -1, -1, 0}},
		{[]api.Regex{union(a, b)}, "ab", "0-1 0-2", []int{-1, 0, 0}},
		{[]api.Regex{union(a, b, c)}, "abc", "0-1 0-2 0-3", []int{-1, 0, 0, 0}},
		{[]api.Regex{star(a)}, "a", "0-1 1-1", []int{0, 0}},
		// Several expressions.
		{[]api.Regex{never, no, no, a}, "a", "0-1", []int{1, 3}},
		{[]api.Regex{a, a}, "aa", "0-1 0-2", []int{-1, 0, 1}},
		{[]api.Regex{a, star(b), star(c)}, "abc", "0-1 0-2 0-3 2-2 3-3", []int{1, 0, 1, 2}},
		{[]api.Regex{concat(a, b), never, union(c, no), no}, "abc", "0-1 0-3 1-2", []int{2, -1, 0, 2}},
		{[]api.Regex{star(never), a}, "a", "0-1", []int{0, 1}},
		// RxNone and RxEmpty within others.
		{[]api.Regex{concat(never, a)}, "a", "", []int{-1, 0}},
		{[]api.Regex{concat(a, never)}, "a", "0-1", []int{-1, -1}},
		{[]api.Regex{concat(a, never, b)}, "ab", "0-1", []int{-1, -1, 0}},
		{[]api.Regex{concat(never, never)}, "", "", []int{-1}},
		{[]api.Regex{concat(never, no)}, "", "", []int{-1}},
		{[]api.Regex{concat(no, no)}, "", "", []int{0}},
		{[]api.Regex{concat(no, a)}, "a", "0-1", []int{-1, 0}},
		{[]api.Regex{concat(a, no)}, "a", "0-1", []int{-1, 0}},
		{[]api.Regex{concat(a, no, b)}, "ab", "0-1 1-2", []int{-1, -1, 0}},
		{[]api.Regex{concat(a, star(never), b)}, "ab", "0-1 1-2", []int{-1, -1, 0}},
		{[]api.Regex{union(never, a)}, "a", "0-1", []int{-1, 0}},
		{[]api.Regex{union(a, never)}, "a", "0-1", []int{-1, 0}},
		{[]api.Regex{union(never, never)}, "", "", []int{-1}},
		{[]api.Regex{union(never, no)}, "", "", []int{0}},
		{[]api.Regex{union(no, a)}, "a", "0-1", []int{0, 0}},
		{[]api.Regex{union(a, no)}, "a", "0-1", []int{0, 0}},
		{[]api.Regex{union(a, no, b)}, "ab", "0-1 0-2", []int{0, 0, 0}},
		{[]api.Regex{star(never)}, "", "", []int{0}},
		{[]api.Regex{star(no)}, "", "", []int{0}},
		// Nullable kids in each place of a concatenation.
		{[]api.Regex{concat(option(a), b)}, "ab", "0-1 0-2 1-2", []int{-1, -1, 0}},
		{[]api.Regex{concat(a, option(b))}, "ab", "0-1 1-2", []int{-1, 0, 0}},
		{[]api.Regex{concat(option(a), option(b))}, "ab", "0-1 0-2 1-2", []int{0, 0, 0}},
		{[]api.Regex{concat(option(a), b, c)}, "abc", "0-1 0-2 1-2 2-3", []int{-1, -1, -1, 0}},
		{[]api.Regex{concat(a, option(b), c)}, "abc", "0-1 1-2 1-3 2-3", []int{-1, -1, -1, 0}},
		{[]api.Regex{concat(a, b, option(c))}, "abc", "0-1 1-2 2-3", []int{-1, -1, 0, 0}},
		{[]api.Regex{concat(option(a), option(b), c)}, "abc", "0-1 0-2 0-3 1-2 1-3 2-3", []int{-1, -1, -1, 0}},
		{[]api.Regex{concat(option(a), b, option(c))}, "abc", "0-1 0-2 1-2 2-3", []int{-1, -1, 0, 0}},
		{[]api.Regex{concat(a, option(b), option(c))}, "abc", "0-1 1-2 1-3 2-3", []int{-1, 0, 0, 0}},
		{[]api.Regex{concat(option(a), option(b), option(c))}, "abc", "0-1 0-2 0-3 1-2 1-3 2-3", []int{0, 0, 0, 0}},
		{[]api.Regex{concat(a, option(b), option(c), d)}, "abcd", "0-1 1-2 1-3 1-4 2-3 2-4 3-4", []int{-1, -1, -1, -1, 0}},
		{[]api.Regex{concat(star(a), star(b))}, "ab", "0-1 0-2 1-1 1-2 2-2", []int{0, 0, 0}},
		{[]api.Regex{concat(union(a, b), union(c, d))}, "abcd", "0-1 0-2 1-3 1-4 2-3 2-4", []int{-1, -1, -1, 0, 0}},
		{[]api.Regex{concat(a, concat(b, c), d)}, "abcd", "0-1 1-2 2-3 3-4", []int{-1, -1, -1, -1, 0}},
		// Unions.
		{[]api.Regex{union(concat(a, b), concat(c, d))}, "abcd", "0-1 0-3 1-2 3-4", []int{-1, -1, 0, -1, 0}},
		{[]api.Regex{union(a, union(b, c), d)}, "abcd", "0-1 0-2 0-3 0-4", []int{-1, 0, 0, 0, 0}},
		{[]api.Regex{union(star(a), b)}, "ab", "0-1 0-2 1-1", []int{0, 0, 0}},
		// Repetitions.
		{[]api.Regex{star(star(a))}, "a", "0-1 1-1", []int{0, 0}},
		{[]api.Regex{star(option(a))}, "a", "0-1 1-1", []int{0, 0}},
		{[]api.Regex{star(concat(a, b))}, "ab", "0-1 1-2 2-1", []int{0, -1, 0}},
		{[]api.Regex{star(union(a, b))}, "ab", "0-1 0-2 1-1 1-2 2-1 2-2", []int{0, 0, 0}},
		{[]api.Regex{star(concat(option(a), b))}, "ab", "0-1 0-2 1-2 2-1 2-2", []int{0, -1, 0}},
		{[]api.Regex{star(concat(a, star(b)))}, "ab", "0-1 1-1 1-2 2-1 2-2", []int{0, 0, 0}},
		{[]api.Regex{star(concat(star(a), star(b)))}, "ab", "0-1 0-2 1-1 1-2 2-1 2-2", []int{0, 0, 0}},
		{[]api.Regex{concat(a, star(union(b, c)))}, "abc", "0-1 1-2 1-3 2-2 2-3 3-2 3-3", []int{-1, 0, 0, 0}},
		{[]api.Regex{star(concat(a, never, b))}, "ab", "0-1 2-1", []int{0, -1, 0}},
	} {
		n := fromRegexes(t, x.l)
		if n.States != len(x.sets)+1 || n.Start != 0 || arcsOf(n) != x.arcs || !slices.Equal(n.Accept, x.accept) {
			t.Errorf("P9.3: FromRegexes(%v): %v, want the arcs %s and the numbers %v", x.l, n, x.arcs, x.accept)
		}
		for _, arc := range n.Arcs {
			if arc.Epsilon || arc.Set != bytesOf(x.sets[arc.To-1:arc.To]) {
				t.Errorf("P9.3: FromRegexes(%v): arc %v", x.l, arc)
			}
		}
	}
}

// The set of an arc is that of the occurrence to which it leads, whatever the set.
func TestSetsOfArcs(t *testing.T) { // P9.3
	for b := range 256 {
		one := bytesOf(string([]byte{byte(b)}))
		r := api.Regex{Kind: api.RxSet, Set: one}
		all := api.Regex{Kind: api.RxSet, Set: allBytes()}
		n := fromRegexes(t, []api.Regex{concat(r, star(all)), star(r)})
		for _, a := range n.Arcs {
			want := one
			if a.To == 2 {
				want = allBytes()
			}
			if a.Set != want {
				t.Errorf("P9.3: byte %d: arc %v", b, a)
			}
		}
		checkRun(t, n, string([]byte{byte(b), byte(b)}), 0)
		checkRun(t, n, string([]byte{byte(b + 1)}), -1)
		checkRun(t, n, "", 1)
	}
}

// leastMatch returns the least index of an expression of l that matches s, or -1.
func leastMatch(l []api.Regex, s string) int {
	return slices.IndexFunc(l, func(r api.Regex) bool { return regex.Match(r, s) })
}

func checkMatches(t *testing.T, l []api.Regex, strings []string) {
	t.Helper()
	n := fromRegexes(t, l)
	for _, s := range strings {
		if got, want := nfa.Run(n, s), leastMatch(l, s); got != want {
			t.Errorf("P9.3: %v: Run(%q): %d, want %d", l, s, got, want)
		}
	}
}

func TestSmallExpressions(t *testing.T) { // P9.3
	leaves := []api.Regex{none(), empty(), set("a"), set("ab")}
	short := []string{"", "a", "b", "ab", "ba", "aab", "bba", "abab"}
	for _, r := range smallRegexes(3, leaves) {
		checkMatches(t, []api.Regex{r}, short)
	}
	small := smallRegexes(2, leaves)
	for _, r := range small {
		for _, x := range small {
			checkMatches(t, []api.Regex{r, x}, short)
		}
	}
}

func TestRandomExpressions(t *testing.T) { // P9.3
	random := rand.New(rand.NewSource(2))
	for range 3000 {
		l := randomRegexes(random, 4, 4)
		var some []string
		for range 12 {
			some = append(some, randomString(random, 8))
		}
		checkMatches(t, l, append(some, ""))
	}
}

// As many arcs as there can be, and a string for which all states are reached again and again.
func TestLargeExpressions(t *testing.T) { // P9.3
	long := strings.Repeat("a", api.MaxText)
	for _, r := range []api.Regex{
		star(union(slices.Repeat([]api.Regex{set("a")}, 498)...)),
		concat(slices.Repeat([]api.Regex{star(set("a"))}, 249)...),
	} {
		n := fromRegexes(t, []api.Regex{r})
		checkRun(t, n, long, 0)
		checkRun(t, n, long+"b", -1)
		checkRun(t, n, "b"+long, -1)
	}
}

// nested returns an expression with n expressions on its only path.
func nested(n int, r api.Regex) api.Regex {
	for range n - 1 {
		r = star(r)
	}
	return r
}

// sized returns an expression of every shape with n nodes.
func sized(n int) map[string]api.Regex {
	a := set("a")
	group := concat(a, union(none(), empty(), star(a)), a) // 8 nodes
	deep := union(slices.Repeat([]api.Regex{nested(29, a)}, (n-1)/29)...)
	all := map[string]api.Regex{
		"concat":  concat(slices.Repeat([]api.Regex{a}, n-1)...),
		"union":   union(slices.Repeat([]api.Regex{none()}, n-1)...),
		"star":    star(star(concat(slices.Repeat([]api.Regex{empty()}, n-3)...))),
		"options": concat(slices.Repeat([]api.Regex{option(a)}, (n-1)/3)...),
		"groups":  union(slices.Repeat([]api.Regex{group}, (n-1)/8)...),
		"deep":    deep,
	}
	for name, rest := range map[string]int{"options": (n - 1) % 3, "groups": (n - 1) % 8, "deep": (n - 1) % 29} {
		r := all[name]
		r.Kids = append(slices.Clone(r.Kids), slices.Repeat([]api.Regex{empty()}, rest)...)
		all[name] = r
	}
	return all
}

func checkError(t *testing.T, what string, l []api.Regex, want api.Errno) {
	t.Helper()
	n, err := nfa.FromRegexes(l)
	if err != want || !equalAutomata(n, api.NFA{}) {
		t.Errorf("P9.3: %s: error %d, want %d, with %d states", what, err, want, n.States)
	}
}

func TestLimit(t *testing.T) { // P9.3
	for name, r := range sized(500) {
		fromRegexes(t, []api.Regex{r})
		checkError(t, "one more than in "+name, []api.Regex{r, none()}, api.ErrLimit)
		checkError(t, "one more than in "+name, []api.Regex{empty(), r}, api.ErrLimit)
		checkError(t, "as many again as in "+name, []api.Regex{r, r}, api.ErrLimit)
	}
	for name, r := range sized(501) {
		checkError(t, "501 in "+name, []api.Regex{r}, api.ErrLimit)
		checkError(t, "501 in "+name+" and more", []api.Regex{set("a"), r, set("a")}, api.ErrLimit)
	}
	for name, r := range sized(250) {
		fromRegexes(t, []api.Regex{r, r})
		checkError(t, "501 in "+name+" and others", []api.Regex{r, sized(251)[name]}, api.ErrLimit)
		checkError(t, "501 in "+name+" and others", []api.Regex{sized(251)[name], r}, api.ErrLimit)
	}
	for _, leaf := range []api.Regex{none(), empty(), set("a")} {
		fromRegexes(t, slices.Repeat([]api.Regex{leaf}, 499))
		fromRegexes(t, slices.Repeat([]api.Regex{leaf}, 500))
		checkError(t, "501 leaves", slices.Repeat([]api.Regex{leaf}, 501), api.ErrLimit)
		checkError(t, "many leaves", slices.Repeat([]api.Regex{leaf}, 100000), api.ErrLimit)
	}
	fromRegexes(t, slices.Repeat([]api.Regex{star(set("a"))}, 250))
	checkError(t, "251 repetitions", slices.Repeat([]api.Regex{star(set("a"))}, 251), api.ErrLimit)
	wide := set("a")
	for range 18 { // few slices, but many nodes
		wide = union(wide, wide)
	}
	checkError(t, "many nodes", []api.Regex{wide}, api.ErrLimit)
}

func TestInvalidExpressions(t *testing.T) { // P9.3
	a := set("a")
	circular := []api.Regex{a, a}
	circular[1] = concat(circular...)
	for what, bad := range map[string]api.Regex{
		"no kind":           {},
		"a kind too high":   {Kind: 7},
		"a kind too low":    {Kind: -1},
		"an empty set":      {Kind: api.RxSet},
		"a set too much":    {Kind: api.RxEmpty, Set: a.Set},
		"a kid too much":    {Kind: api.RxNone, Kids: []api.Regex{a}},
		"a concat of one":   concat(a),
		"a union of none":   union(),
		"a star of two":     {Kind: api.RxStar, Kids: []api.Regex{a, a}},
		"a star of none":    {Kind: api.RxStar},
		"a star of no kind": star(api.Regex{}),
		"a deep fault":      union(a, concat(a, star(concat(a)))),
		"a long path":       nested(api.MaxNest+1, a),
		"a circle":          circular[1],
	} {
		for _, l := range [][]api.Regex{{}, {a}, {star(a), none()}, slices.Repeat([]api.Regex{a}, 498), slices.Repeat([]api.Regex{a}, 600), {sized(501)["concat"]}} {
			for _, place := range []int{0, len(l) / 2, len(l)} {
				checkError(t, what, slices.Insert(slices.Clone(l), place, bad), api.ErrArg)
			}
		}
		checkError(t, what, []api.Regex{bad, bad}, api.ErrArg)
		many := slices.Repeat([]api.Regex{a}, 600)
		for _, place := range []int{0, 400, 600} {
			checkError(t, what, []api.Regex{a, union(slices.Insert(slices.Clone(many), place, bad)...)}, api.ErrArg)
		}
	}
	fromRegexes(t, []api.Regex{nested(api.MaxNest, a)})
}

// Rule 5: the arguments remain as they are. The rules of the language: a result has memory of its own.
func TestMemoryOfExpressions(t *testing.T) { // P9.3
	kids := make([]api.Regex, 3, 8)
	kids[0], kids[1], kids[2] = option(set("a")), star(concat(set("b"), option(set("c")))), set("d")
	l := []api.Regex{concat(kids...), star(union(set("a"), set("b"))), empty()}
	l[0].Kids = kids
	before, spare := copyOfRegexes(l), copyOfRegexes(kids[:8])
	first := fromRegexes(t, l[:2])
	second := fromRegexes(t, l[:2])
	for i := range first.Arcs {
		first.Arcs[i] = api.NFAArc{From: -7}
	}
	for i := range first.Accept {
		first.Accept[i] = -7
	}
	if !slices.EqualFunc(l, before, equalRegexes) || !slices.EqualFunc(kids[:8], spare, equalRegexes) {
		t.Error("P9.3: the argument is changed, or shared with the result")
	}
	if !equalAutomata(second, positions(l[:2])) {
		t.Error("P9.3: two results share memory")
	}
}
