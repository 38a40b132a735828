package layout_test

import (
	"fmt"
	"math/rand"
	"slices"
	"strings"
	"testing"

	"emendate/api"
	"emendate/layout"
)

// Tokens.

// words returns tokens for the words of a text, which are separated by blanks and line feeds; a bracket begins a token that extends to the closing one. Their kinds are from -1 to defs - 1.
func words(s string, defs int) []api.Token {
	var l []api.Token
	for at := 0; at < len(s); {
		n := 1
		if s[at] != ' ' && s[at] != '\n' {
			n = width(s[at:])
			l = append(l, api.Token{Kind: len(l)%(defs+1) - 1, At: at, Text: s[at : at+n], Look: n + 1})
		}
		at += n
	}
	return l
}

// width returns the length of the word with which s begins.
func width(s string) int {
	end := strings.IndexAny(s, " \n[")
	if s[0] == '[' {
		end = strings.Index(s, "]") + 1
	}
	if end <= 0 {
		end = len(s)
	}
	return end
}

// tokensAt returns tokens with the given offsets, which have nothing to do with a text.
func tokensAt(offsets ...int) []api.Token {
	var l []api.Token
	for i, at := range offsets {
		l = append(l, api.Token{Kind: -i, At: at, Text: fmt.Sprint("t", i), Look: 3 * i})
	}
	return l
}

// expand returns the tokens that the notation describes: a point is the next token of l, and N, I and D are layout tokens with their offsets.
func expand(notation string, l []api.Token, defs int) []api.Token {
	var all []api.Token
	for _, field := range strings.Fields(notation) {
		if field == "." {
			all, l = append(all, l[0]), l[1:]
			continue
		}
		token := api.Token{Kind: defs + strings.IndexByte("NID", field[0])}
		fmt.Sscan(field[1:], &token.At)
		all = append(all, token)
	}
	return append(all, l...)
}

// Models.

// lineOf returns the number of the line that contains an offset.
func lineOf(s string, at int) int { return strings.Count(s[:at], "\n") }

// indentation returns the number of bytes between the start of the line and an offset.
func indentation(s string, at int) int { return at - (strings.LastIndex(s[:at], "\n") + 1) }

// isFirst reports whether token i of l is the first one of its line.
func isFirst(l []api.Token, s string, i int) bool {
	return i == 0 || lineOf(s, l[i-1].At) < lineOf(s, l[i].At)
}

// modelApply follows the definitions. The levels are a list from the top to the base level.
func modelApply(l []api.Token, s string, defs int) []api.Token {
	var out []api.Token
	add := func(kind, at int) { out = append(out, api.Token{Kind: kind, At: at}) }
	depths := []int{0}
	for i, token := range l {
		if isFirst(l, s, i) {
			d := indentation(s, token.At)
			if d > depths[0] {
				depths = append([]int{d}, depths...)
				add(defs+1, token.At)
			} else {
				if i > 0 {
					add(defs, token.At)
				}
				for len(depths) >= 2 && depths[1] >= d {
					depths = depths[1:]
					add(defs+2, token.At)
				}
			}
		}
		out = append(out, token)
	}
	if len(l) > 0 {
		add(defs, len(s))
	}
	for range len(depths) - 1 {
		add(defs+2, len(s))
	}
	return out
}

// modelBalanced follows the definition, with a count for each prefix.
func modelBalanced(l []api.Token, defs int) bool {
	count := func(l []api.Token, more uint) int {
		n := 0
		for _, token := range l {
			if token.Kind > defs && uint(token.Kind)-uint(defs) == more {
				n++
			}
		}
		return n
	}
	for i := range l {
		if count(l[:i], 2) > count(l[:i], 1) {
			return false
		}
	}
	return count(l, 2) == count(l, 1)
}

// Cases.

// allStrings returns all strings of at most n of the given bytes, the shorter ones first.
func allStrings(bytes string, n int) []string {
	all := []string{""}
	for i := 0; i < len(all) && len(all[i]) < n; i++ {
		for k := range len(bytes) {
			all = append(all, all[i]+bytes[k:k+1])
		}
	}
	return all
}

// eachRise calls f with all lists of at most count numbers from least to most that do not decrease.
func eachRise(least, most, count int, f func(l []int), prefix ...int) {
	f(prefix)
	if count == 0 {
		return
	}
	for n := least; n <= most; n++ {
		eachRise(n, most, count-1, f, append(slices.Clone(prefix), n)...)
	}
}

// eachCase calls f with many texts and lists of tokens, whose kinds are less than defs.
func eachCase(f func(l []api.Token, s string, defs int)) {
	for _, s := range allStrings("a \n", 7) {
		f(words(s, 1), s, 1)
	}
	for _, s := range allStrings("a[]\n", 5) {
		f(words(s, 3), s, 3)
	}
	for _, s := range allStrings("-\n", 5) {
		eachRise(0, len(s), 3, func(offsets []int) { f(tokensAt(offsets...), s, 1+len(offsets)) })
	}
	random := rand.New(rand.NewSource(1))
	for range 5000 {
		s := randomText(random)
		defs := random.Intn(5)
		f(words(s, defs), s, defs)
		var offsets []int
		for range random.Intn(12) {
			offsets = append(offsets, random.Intn(len(s)+1))
		}
		slices.Sort(offsets)
		f(tokensAt(offsets...), s, 1+random.Intn(1000))
	}
}

// randomText returns a text of several lines with similar indentations.
func randomText(random *rand.Rand) string {
	var s strings.Builder
	for range random.Intn(10) {
		s.WriteString(strings.Repeat(" ", random.Intn(1+random.Intn(8))))
		for range random.Intn(4) {
			s.WriteString([]string{"a", "bc ", " ", "[d]", "[\n ]", "[", "f"}[random.Intn(7)])
		}
		if random.Intn(8) > 0 {
			s.WriteString("\n")
		}
	}
	return s.String()
}

// checkApply compares what Apply returns with what it should return, and the arguments with what they were.
func checkApply(t *testing.T, l []api.Token, s string, defs int, want []api.Token) {
	t.Helper()
	mark := api.Token{Kind: 77, At: -5, Text: "mark", Look: 7}
	longer := append(slices.Clone(l), mark, mark)
	before := slices.Clone(longer)
	if got := layout.Apply(longer[:len(l)], s, defs); !slices.Equal(got, want) {
		t.Errorf("P15.1: Apply(%+v, %q, %d): %+v, want %+v", l, s, defs, got, want)
	}
	if !slices.Equal(longer, before) {
		t.Errorf("P15.1: Apply(%+v, %q, %d) changes its arguments", l, s, defs)
	}
}
