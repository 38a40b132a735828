package lexer_test

import (
	"math"
	"math/rand"
	"slices"
	"strings"
	"testing"

	"emendate/api"
	"emendate/lexer"
)

// defsOf returns a specification with a definition of each of the given kinds.
func defsOf(kinds ...int) api.LexSpec {
	var spec api.LexSpec
	for _, kind := range kinds {
		spec.Defs = append(spec.Defs, api.TokenDef{Name: "x", Kind: kind, Pattern: "x", Sample: "x"})
	}
	return spec
}

// ofKinds returns tokens of the given kinds that are all different.
func ofKinds(kinds ...int) []api.Token {
	var l []api.Token
	for i, kind := range kinds {
		l = append(l, api.Token{Kind: kind, At: 3 * i, Text: strings.Repeat("x", i%4), Look: i + 1})
	}
	return l
}

// checkVisible compares the places of the visible tokens.
func checkVisible(t *testing.T, spec api.LexSpec, l []api.Token, places ...int) {
	t.Helper()
	var want []api.Token
	for _, i := range places {
		want = append(want, l[i])
	}
	if got := lexer.Visible(spec, l); !slices.Equal(got, want) {
		t.Errorf("P12.2: %+v: Visible(%+v): %+v, want %+v", spec, l, got, want)
	}
}

func TestVisible(t *testing.T) { // P12.2
	plain, skip, keyword := api.TokenPlain, api.TokenSkip, api.TokenKeyword
	for _, x := range []struct {
		defs, kinds, want []int
	}{
		{nil, nil, nil},
		{[]int{skip}, nil, nil},
		{nil, []int{0}, []int{0}},
		{nil, []int{0, 1, -1, 2, 0}, []int{0, 1, 2, 3, 4}},
		{[]int{plain}, []int{0, 0}, []int{0, 1}},
		{[]int{keyword}, []int{0, 0}, []int{0, 1}},
		{[]int{skip}, []int{0}, nil},
		{[]int{skip}, []int{0, 0, 0}, nil},
		{[]int{skip}, []int{1, 0, 2, 0, -1, 0}, []int{0, 2, 4}},
		{[]int{plain, skip}, []int{1, 0, 1, 0, 1}, []int{1, 3}},
		{[]int{skip, plain}, []int{1, 0, 1, 0, 1}, []int{0, 2, 4}},
		{[]int{plain, skip, keyword}, []int{0, 1, -1, 2, 3, 1}, []int{0, 2, 3, 4}},
		{[]int{skip, skip, skip}, []int{2, 1, 0, 3, -1, 4}, []int{3, 4, 5}},
		{[]int{skip, plain, skip, keyword, skip}, []int{4, 3, 2, 1, 0, 5, 1, 2, 3}, []int{1, 3, 5, 6, 8}},
		// Error tokens and layout tokens; the latter have the kinds from the number of definitions on.
		{[]int{skip}, []int{-1, -1}, []int{0, 1}},
		{[]int{skip, skip}, []int{2, 3, 4, 1}, []int{0, 1, 2}},
		{[]int{plain, skip}, []int{0, 2, 3, 1, 0, 1, 2, 4}, []int{0, 1, 2, 4, 6, 7}},
		// Kinds that no lexer makes.
		{[]int{skip, skip}, []int{-2, -3, math.MinInt, 5, 2, 500, 1 << 32, math.MaxInt}, []int{0, 1, 2, 3, 4, 5, 6, 7}},
		{nil, []int{-2, math.MinInt, math.MaxInt}, []int{0, 1, 2}},
		// Definitions that are not valid.
		{[]int{0, 4, -1, skip, math.MaxInt}, []int{0, 1, 2, 3, 4}, []int{0, 1, 2, 4}},
	} {
		for _, layout := range []bool{false, true} {
			spec := defsOf(x.defs...)
			spec.Layout = layout
			checkVisible(t, spec, ofKinds(x.kinds...), x.want...)
		}
	}
	if got := lexer.Visible(api.LexSpec{}, []api.Token{}); len(got) != 0 {
		t.Errorf("P12.2: of no tokens: %+v", got)
	}
}

// Nothing but the kind of a definition counts, and nothing but the kind of a token.
func TestVisibleByKindOnly(t *testing.T) { // P12.2
	spec := api.LexSpec{Defs: []api.TokenDef{
		{Name: "space", Kind: api.TokenPlain, Pattern: " +", Sample: " "},
		{Name: "word", Kind: api.TokenSkip, Pattern: "x", Sample: "x"},
		{},
	}, Misspelling: 5, Unclosed: -5}
	l := []api.Token{
		{Kind: 0, Text: " "}, {Kind: 1, Text: "x"}, {Kind: 0, Text: ""}, {Kind: 1, Text: ""}, {Kind: 2, Text: "x"},
		{Kind: 0, At: -4, Text: " ", Look: -4}, {Kind: 1, At: math.MaxInt, Look: math.MinInt}, {}, {Kind: -1, At: 1, Text: "\xff", Look: 9},
	}
	checkVisible(t, spec, l, 0, 2, 4, 5, 7, 8)
	checkVisible(t, spec, slices.Repeat(l, 2), 0, 2, 4, 5, 7, 8, 9, 11, 13, 14, 16, 17)
}

func TestVisibleOfManyDefinitions(t *testing.T) { // P12.2
	random := rand.New(rand.NewSource(1))
	for range 2000 {
		count := random.Intn(50)
		var defs, kinds, want []int
		for range count {
			defs = append(defs, 1+random.Intn(3))
		}
		for i := range random.Intn(60) {
			kind := random.Intn(count+6) - 3
			kinds = append(kinds, kind)
			if kind < 0 || kind >= count || defs[kind] != api.TokenSkip {
				want = append(want, i)
			}
		}
		checkVisible(t, defsOf(defs...), ofKinds(kinds...), want...)
	}
}

func TestVisibleOfALanguage(t *testing.T) { // P12.2
	spec, d := language(t)
	l := lexer.Lex(d, " while /* */ x\n\n? <=")
	var texts []string
	for _, token := range lexer.Visible(spec, l) {
		texts = append(texts, token.Text)
		if !slices.Contains(l, token) {
			t.Errorf("P12.2: %+v is not one of %+v", token, l)
		}
	}
	if want := []string{"while", "x", "?", "<="}; !slices.Equal(texts, want) {
		t.Errorf("P12.2: %q, want %q", texts, want)
	}
}

func TestMemoryOfVisible(t *testing.T) { // P12.2
	spec := defsOf(api.TokenPlain, api.TokenSkip, api.TokenPlain)
	defs := slices.Clone(spec.Defs)
	for _, kinds := range [][]int{{0, 1, 2, 1, -1, 0}, {0, 2, 3}, {1, 1}, {1, 0}, {0, 1}} {
		l := ofKinds(append(kinds, 2)...)
		before := slices.Clone(l)
		got := lexer.Visible(spec, l[:len(kinds)])
		want := slices.Clone(got)
		again := lexer.Visible(spec, l[:len(kinds)])
		for i := range again[:cap(again)] {
			again[:cap(again)][i] = api.Token{Kind: 9, At: 9, Text: "9", Look: 9}
		}
		if !slices.Equal(l, before) || !slices.Equal(spec.Defs, defs) {
			t.Errorf("P12.2: the arguments are now %+v and %+v", l, spec)
		}
		if !slices.Equal(got, want) {
			t.Error("P12.2: two results share memory")
		}
	}
}

func TestText(t *testing.T) { // P12.2
	for _, x := range []struct {
		l    []api.Token
		want string
	}{
		{nil, ""},
		{[]api.Token{}, ""},
		{[]api.Token{{}}, ""},
		{[]api.Token{{Text: "a"}}, "a"},
		{[]api.Token{{Text: "a"}, {At: 1, Text: "bc"}, {At: 3, Text: "d"}}, "abcd"},
		{[]api.Token{{At: 3, Text: "d"}, {At: 1, Text: "bc"}, {Text: "a"}}, "dbca"}, // in the order of the list
		{[]api.Token{{Kind: -1, Text: "\x00", Look: 1}, {Kind: -1, At: 1, Text: "\xff", Look: 1}}, "\x00\xff"},
		{[]api.Token{{Kind: 0, Text: "x", Look: 2}, {Kind: 3, At: 1}, {Kind: 4, At: 1}, {Kind: 0, At: 1, Text: "y", Look: 2}, {Kind: 5, At: 2}}, "xy"}, // with layout tokens
		{[]api.Token{{Kind: 3, Text: "\n  "}, {Kind: 4, At: 3}, {Kind: 7, At: -8, Text: "z", Look: -1}}, "\n  z"},
		{[]api.Token{{Text: "\xc3"}, {Text: "\xa9"}, {Text: "é"}}, "éé"},
		{[]api.Token{{Text: "same"}, {Text: "same"}}, "samesame"},
		{slices.Repeat([]api.Token{{Kind: -1, Text: "xyz"}}, 5000), strings.Repeat("xyz", 5000)},
	} {
		l := append(slices.Clone(x.l), api.Token{Text: "spare"})
		before := slices.Clone(l)
		if got := lexer.Text(l[:len(x.l)]); got != x.want {
			t.Errorf("P12.2: %.300q, want %.300q", got, x.want)
		}
		if !slices.Equal(l, before) {
			t.Errorf("P12.2: the tokens are now %+v", l)
		}
	}
}
