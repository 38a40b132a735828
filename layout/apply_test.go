package layout_test

import (
	"math"
	"slices"
	"strings"
	"testing"

	"emendate/api"
	"emendate/layout"
)

// An example is a text and the notation of what Apply makes of its words.
type example struct{ s, want string }

func checkExamples(t *testing.T, l ...example) {
	t.Helper()
	for _, x := range l {
		for _, defs := range []int{1, 0, 2, 40, 1000} {
			tokens := words(x.s, defs)
			checkApply(t, tokens, x.s, defs, expand(x.want, tokens, defs))
			checkApply(t, tokens, x.s, defs, modelApply(tokens, x.s, defs))
		}
	}
}

// checkOffsets compares what Apply makes of tokens with the given offsets.
func checkOffsets(t *testing.T, s string, offsets []int, want string) {
	t.Helper()
	l := tokensAt(offsets...)
	for _, defs := range []int{0, 1, 5, 1000} {
		checkApply(t, l, s, defs, expand(want, l, defs))
		checkApply(t, l, s, defs, modelApply(l, s, defs))
	}
}

func TestApplyOfTheChapter(t *testing.T) { // P15.1
	l := []api.Token{{Kind: 0, At: 0, Text: "a", Look: 2}, {Kind: 0, At: 4, Text: "a", Look: 2}, {Kind: 0, At: 6, Text: "a", Look: 2}}
	checkApply(t, l, "a\n  a\na", 1, []api.Token{l[0], {Kind: 2, At: 4}, l[1], {Kind: 1, At: 6}, {Kind: 3, At: 6}, l[2], {Kind: 1, At: 7}})
}

func TestNoTokens(t *testing.T) { // P15.1
	for _, s := range []string{"", "\n", " ", "a", "  a\n b", "\n\n\n"} {
		for _, defs := range []int{0, 1, 40, 1000} {
			for _, l := range [][]api.Token{nil, {}, make([]api.Token, 0, 5)} {
				checkApply(t, l, s, defs, nil)
			}
		}
	}
}

func TestOneLine(t *testing.T) { // P15.1
	checkExamples(t,
		example{"a", ". N1"}, example{"ab c d", ". . . N6"}, example{"a  ", ". N3"}, example{"[a][b] c", ". . . N8"},
		// Indented.
		example{" a", "I1 . N2 D2"}, example{"     a b", "I5 . . N8 D8"}, example{"  a  b \n", "I2 . . N8 D8"})
}

func TestFirstLineWithTokens(t *testing.T) { // P15.1
	checkExamples(t,
		example{"\na", ". N2"}, example{"\n\n  \na b", ". . N8"}, example{"\n a", "I2 . N3 D3"}, example{"   \n  a", "I6 . N7 D7"}, example{"\n\n\n", ""},
		example{"  a\nb", "I2 . N4 D4 . N5"}, example{"  a\n  b", "I2 . N6 . N7 D7"}, example{"  a\n b", "I2 . N5 . N6 D6"}, example{"  a\n   b", "I2 . I7 . N8 D8 D8"}, example{"\n  \n  a\n\nb", "I6 . N9 D9 . N10"})
}

func TestLinesWithoutTokens(t *testing.T) { // P15.1
	for _, empty := range []string{"", " ", "  ", "      "} {
		for _, count := range []int{1, 2, 5} {
			gap := strings.Repeat(empty+"\n", count)
			n := len(gap)
			shift := func(at int) []int { return []int{at, at + n, at + 2*n, at + 3*n} }
			s := gap + "a\n" + gap + "  b\n" + gap + "c"
			l := words(s, 1)
			a, b, c, end := shift(0)[1], shift(4)[2], shift(6)[3], shift(7)[3]
			checkApply(t, l, s, 1, []api.Token{l[0], {Kind: 2, At: b}, l[1], {Kind: 1, At: c}, {Kind: 3, At: c}, l[2], {Kind: 1, At: end}})
			if l[0].At != a || l[1].At != b || l[2].At != c || len(s) != end {
				t.Errorf("%q has the tokens %+v", s, l)
			}
			s += "\n" + gap
			checkApply(t, l, s, 1, []api.Token{l[0], {Kind: 2, At: b}, l[1], {Kind: 1, At: c}, {Kind: 3, At: c}, l[2], {Kind: 1, At: len(s)}})
		}
	}
	checkExamples(t,
		example{"a\n\nb", ". N3 . N4"}, example{"a\n  \nb", ". N5 . N6"}, example{"a\n  b\n\n  c", ". I4 . N9 . N10 D10"}, example{"a\n  b\n \n    \n  c\n\n", ". I4 . N15 . N18 D18"})
}

func TestIndentations(t *testing.T) { // P15.1
	checkExamples(t,
		// Equal ones.
		example{"a\nb\nc", ". N2 . N4 . N5"}, example{" a\n b\n c", "I1 . N4 . N7 . N8 D8"}, example{"a b\nc d", ". . N4 . . N7"},
		// Growing by several levels, and falling by one, by several and to 0.
		example{"a\n b\n  c\n   d", ". I3 . I7 . I12 . N13 D13 D13 D13"}, example{"a\n b\n  c\n d", ". I3 . I7 . N10 D10 . N11 D11"},
		example{"a\n b\n  c\n   d\n e", ". I3 . I7 . I12 . N15 D15 D15 . N16 D16"}, example{"a\n b\n  c\n   d\ne", ". I3 . I7 . I12 . N14 D14 D14 D14 . N15"},
		example{"a\n     b\n      c\n     d\ne\n  f\ng", ". I7 . I15 . N22 D22 . N24 D24 . I28 . N30 D30 . N31"},
		// Between two open levels.
		example{"a\n    b\n  c", ". I6 . N10 . N11 D11"}, example{"a\n    b\n c\n   d\n    e\n     f", ". I6 . N9 . N14 . N20 . I27 . N28 D28 D28"},
		example{"a\n  b\n     c\n   d", ". I4 . I11 . N16 . N17 D17 D17"}, example{"a\n  b\n    c\n   d\n  e", ". I4 . I10 . N15 . N19 D19 . N20 D20"},
		example{"a\n  b\n      c\n   d\n e\nf", ". I4 . I12 . N17 . N20 D20 . N22 D22 . N23"}, example{"    a\n  b\nc", "I4 . N8 . N10 D10 . N11"},
		// At a depth between two levels another level is not opened.
		example{"a\n    b\n  c\n    d\n  e\n   f", ". I6 . N10 . N16 . N20 . N25 . N26 D26"})
}

func TestTokensWithLineFeeds(t *testing.T) { // P15.1
	checkExamples(t,
		example{"[\n]a", ". I3 . N4 D4"}, example{"[\n]", ". N3"}, example{"[\n\n]\na", ". N5 . N6"}, example{"[\n  ]a b", ". I5 . . N8 D8"}, example{" [\n ]a", "I1 . I5 . N6 D6 D6"},
		example{"  [\n ]a", "I2 . N6 . N7 D7"}, example{"  [\n]a", "I2 . N5 . N6 D6"}, example{"a [\n  ] [ ] b\nc", ". . I8 . . N14 D14 . N15"}, example{"a\n  b [\n] c", ". I4 . . N10 . N11 D11"}, example{"a\n   b [\n  ]c", ". I5 . . N12 . N13 D13"})
	// A line feed is on the line that it ends.
	checkOffsets(t, "a\n\nb", []int{1, 3}, "I1 . N3 D3 . N4")
	checkOffsets(t, "a\n\nb", []int{0, 1, 2, 3}, ". . N2 . N3 . N4")
	checkOffsets(t, "\n", []int{0}, ". N1")
	checkOffsets(t, "a\n  \nb", []int{0, 4, 5}, ". I4 . N5 D5 . N6")
}

func TestTokensAtOnePlace(t *testing.T) { // P15.1
	checkOffsets(t, "ab\n cd", []int{0, 0, 4, 4, 4}, ". . I4 . . . N6 D6")
	checkOffsets(t, "", []int{0}, ". N0")
	checkOffsets(t, "", []int{0, 0, 0}, ". . . N0")
	checkOffsets(t, "abc", []int{2, 2}, "I2 . . N3 D3")
	empty := []api.Token{{Kind: 0, At: 0}, {Kind: 0, At: 0, Text: "a"}, {Kind: 2, At: 2}, {Kind: -1, At: 2}}
	checkApply(t, empty, "a\nb", 3, expand(". . N2 . . N3", empty, 3))
}

func TestTokensAtTheEnd(t *testing.T) { // P15.1
	checkOffsets(t, "ab", []int{2}, "I2 . N2 D2")
	checkOffsets(t, "ab", []int{0, 2}, ". . N2")
	checkOffsets(t, "ab\n", []int{0, 3}, ". N3 . N3")
	checkOffsets(t, "ab\n", []int{3}, ". N3")
	checkOffsets(t, "ab\n", []int{2, 3}, "I2 . N3 D3 . N3")
	checkOffsets(t, "ab\n  ", []int{0, 5}, ". I5 . N5 D5")
	checkOffsets(t, "ab\n  ", []int{0, 5, 5}, ". I5 . . N5 D5")
	checkOffsets(t, "ab\n  c\n", []int{0, 5, 7, 7}, ". I5 . N7 D7 . . N7")
	checkOffsets(t, "\n\n\n", []int{3}, ". N3")
}

// The tokens of l are inserted as they are, of whatever kind and with whatever text.
func TestTokensAreKept(t *testing.T) { // P15.1
	for _, defs := range []int{0, 1, 40, 1000} {
		l := []api.Token{{Kind: math.MinInt, Text: "long text", Look: -3}, {Kind: math.MaxInt, At: 1, Look: math.MaxInt}, {Kind: defs, At: 3, Text: "\n", Look: math.MinInt}, {Kind: defs + 1, At: 4, Text: "  "}, {Kind: defs + 2, At: 7}, {Kind: defs + 3, At: 7, Text: "\xff"}}
		checkApply(t, l, "ab\n  \nc", defs, expand(". . N3 . . I7 . . N7 D7", l, defs))
	}
}

// An indentation is counted in bytes, whatever they are.
func TestBytesOfIndentations(t *testing.T) { // P15.1
	for b := range 256 {
		if b == '\n' {
			continue
		}
		one := string([]byte{byte(b)})
		s := "a\n" + one + "b\n  c\n" + strings.Repeat(one, 3) + "d\n" + one + one + "e"
		checkOffsets(t, s, []int{0, 3, 7, 12, 16}, ". I3 . I7 . I12 . N16 D16 . N17 D17 D17")
		checkOffsets(t, one+"\n"+one+"b", []int{0, 3}, ". I3 . N4 D4")
	}
	checkOffsets(t, "a\r\n\tb\r\n  c\r\n é d", []int{0, 4, 9, 13, 16}, ". I4 . I9 . N13 D13 . . N17 D17")
	checkOffsets(t, "a\r\n\tb\r\n  c\r\n é d", []int{0, 4, 9, 16}, ". I4 . I9 . I16 . N17 D17 D17 D17")
}

func TestManyLevels(t *testing.T) { // P15.1
	const n = 1000
	var s strings.Builder
	var l, want []api.Token
	for i := range n {
		s.WriteString(strings.Repeat(" ", i))
		l = append(l, api.Token{At: s.Len(), Text: "x", Look: 2})
		s.WriteString("x\n")
	}
	for _, token := range l {
		if token.At > 0 {
			want = append(want, api.Token{Kind: 42, At: token.At})
		}
		want = append(want, token)
	}
	end := s.Len()
	l = append(l, api.Token{At: end, Text: "y", Look: 2})
	closing := append([]api.Token{{Kind: 41, At: end}}, slices.Repeat([]api.Token{{Kind: 43, At: end}}, n-1)...)
	want = append(want, closing...)
	checkApply(t, l[:n], s.String(), 41, want)
	checkApply(t, l, s.String()+"y", 41, append(want, l[n], api.Token{Kind: 41, At: end + 1}))
}

func TestManyTokens(t *testing.T) { // P15.1
	for _, s := range []string{strings.Repeat("a b\n c\n\n", 3000), strings.Repeat("[] ", 5000), strings.Repeat("\n", 20000), strings.Repeat(" ", 3000) + "a\n" + strings.Repeat(" ", 5000) + "b\n c"} {
		l := words(s, 3)
		checkApply(t, l, s, 3, modelApply(l, s, 3))
	}
}

func TestApplyByTheDefinition(t *testing.T) { // P15.1
	for _, s := range allStrings("a \n", 9) {
		l := words(s, 2)
		checkApply(t, l, s, 2, modelApply(l, s, 2))
	}
	for _, s := range allStrings("-\n", 6) {
		eachRise(0, len(s), 4, func(offsets []int) {
			l := tokensAt(offsets...)
			checkApply(t, l, s, len(s), modelApply(l, s, len(s)))
		})
	}
	eachCase(func(l []api.Token, s string, defs int) {
		checkApply(t, l, s, defs, modelApply(l, s, defs))
	})
}

// Nothing is promised for these, but that Apply returns.
func TestArgumentsThatApplyDoesNotPermit(t *testing.T) { // P15.1
	for _, offsets := range [][]int{{-1}, {4}, {0, 1, 0}, {3, 2}, {0, math.MaxInt}, {math.MinInt, 1}, {2, 4}, {-1, 0}} {
		checkApply(t, tokensAt(offsets...), "a\nb", 2, nil)
	}
	for _, defs := range []int{-1, 1001, math.MinInt, math.MaxInt, -1000, math.MaxInt - 1} {
		checkApply(t, tokensAt(0, 2), "a\nb", defs, nil)
		checkApply(t, nil, "a\nb", defs, nil)
	}
}

func TestMemoryOfApply(t *testing.T) { // P15.1
	l := words("a\n  b\nc", 1)
	before := slices.Clone(l)
	first := layout.Apply(l, "a\n  b\nc", 1)
	want := slices.Clone(first)
	second := layout.Apply(l, "a\n  b\nc", 1)
	for i := range second[:cap(second)] {
		second[:cap(second)][i] = api.Token{Kind: -7}
	}
	if !slices.Equal(first, want) || !slices.Equal(l, before) {
		t.Error("P15.1: a result shares memory with another one or with the argument")
	}
}
