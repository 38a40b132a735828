package lexrepair_test

import (
	"math"
	"math/rand"
	"slices"
	"strings"
	"testing"

	"emendate/api"
	"emendate/lexrepair"
)

// checkConfusions compares the confusions of a token, whose offset and look make no difference.
func checkConfusions(t *testing.T, spec api.LexSpec, kind int, text string, want ...api.Confusion) {
	t.Helper()
	arg, before := copyOf(spec), copyOf(spec)
	for _, token := range []api.Token{{Kind: kind, Text: text}, {Kind: kind, At: 7, Text: text, Look: len(text) + 1}, {Kind: kind, At: math.MinInt, Text: text, Look: math.MaxInt}} {
		if got := lexrepair.Confusions(arg, token); !slices.Equal(got, want) {
			t.Errorf("P14.3: %s: Confusions(%.300q of kind %d): %+v, want %+v", show(spec), text, kind, got, want)
		}
	}
	if !equalSpecs(arg, before) {
		t.Errorf("P14.3: %s is now %s", show(before), show(arg))
	}
}

func TestUnclosedTokens(t *testing.T) { // P14.3
	spec := language()
	// By no definition, among them such as are skipped or have no closing delimiter.
	for _, text := range []string{"", "?", "a", "'a'", "''", "'\n", "'a\nb", "'a\\", "/*", "/*a", "/*a*", "\"", "\"ab", "@;", "@a;", "@1", "@a\n", "if", "retur", ";", "\xff", "a'", " '"} {
		checkConfusions(t, spec, -1, text)
	}
	for _, text := range []string{"'?", "'a?", "'A", "'\xff\x00", "'\\'", "'a\\n\\\\", "'; ;"} {
		checkConfusions(t, spec, -1, text, api.Confusion{Kind: 3, Price: 7})
	}
	for _, text := range []string{"'''", "'''a", "'''a\nb c", "'''\n"} {
		checkConfusions(t, spec, -1, text, api.Confusion{Kind: 5, Price: 7})
	}
	for _, text := range []string{"@", "@a", "@ ab c"} {
		checkConfusions(t, spec, -1, text, api.Confusion{Kind: 7, Price: 7})
	}
	// By several, in the order of their kinds.
	for _, text := range []string{"'", "'a", "'abc"} {
		checkConfusions(t, spec, -1, text, api.Confusion{Kind: 3, Price: 7}, api.Confusion{Kind: 7, Price: 7})
	}
	spec.Defs = append(spec.Defs, closedBy("c", api.TokenDef{Name: "key", Kind: api.TokenKeyword, Pattern: "'abc", Sample: "'abc"}), closedBy("~", plain("last", "'[^~]*~", "'~")), closedBy("'a~", plain("more", "'[^~]*a~", "''a~")))
	checkConfusions(t, spec, -1, "'ab", api.Confusion{Kind: 3, Price: 7}, api.Confusion{Kind: 7, Price: 7}, api.Confusion{Kind: 11, Price: 7}, api.Confusion{Kind: 12, Price: 7}, api.Confusion{Kind: 13, Price: 7})
	slices.Reverse(spec.Defs)
	checkConfusions(t, spec, -1, "'ab", api.Confusion{Kind: 0, Price: 7}, api.Confusion{Kind: 1, Price: 7}, api.Confusion{Kind: 2, Price: 7}, api.Confusion{Kind: 6, Price: 7}, api.Confusion{Kind: 10, Price: 7})
	checkConfusions(t, spec, -1, "'"+strings.Repeat("?", 5000), api.Confusion{Kind: 0, Price: 7}, api.Confusion{Kind: 1, Price: 7}, api.Confusion{Kind: 10, Price: 7})
}

func TestMisspelledKeywords(t *testing.T) { // P14.3
	spec := api.LexSpec{Defs: []api.TokenDef{key("while"), plain("word", "[a-z]+", "x"), plain("op", "[+_A-Z]+", "+"), key("While")}, Misspelling: 5, Unclosed: 900}
	for n, l := range [][]string{
		{"while"},
		{"whle", "whilee", "whjle", "hwile", "whiel", "xwhile", "whil", "hile"},
		{"hwiel", "whl", "ile", "whi", "whileab", "xwhilex", "wxixe", "hwle", "whxlex", "hwilee", "wxhixle", "hiwle"},
		{"", "wh", "abcle", "whileabc", "eliwh", "x", "whihlexy", "hxlie"},
	} {
		for _, text := range l {
			var want []api.Confusion
			if n == 1 || n == 2 {
				want = []api.Confusion{{Kind: 0, Price: 5 * n}}
			}
			for _, kind := range []int{1, 2} { // whether or not it is the kind of the text
				one := spec
				one.Defs = spec.Defs[:3]
				checkConfusions(t, one, kind, text, want...)
			}
		}
	}
	// Several keywords.
	checkConfusions(t, spec, 1, "while", api.Confusion{Kind: 3, Price: 5})
	checkConfusions(t, spec, 1, "While", api.Confusion{Kind: 0, Price: 5})
	checkConfusions(t, spec, 1, "wile", api.Confusion{Kind: 0, Price: 5}, api.Confusion{Kind: 3, Price: 10})
	checkConfusions(t, spec, 1, "Wile", api.Confusion{Kind: 0, Price: 10}, api.Confusion{Kind: 3, Price: 5})
	checkConfusions(t, spec, 2, "WHILE")
	checkConfusions(t, spec, 2, "hile", api.Confusion{Kind: 0, Price: 5}, api.Confusion{Kind: 3, Price: 5})
	slices.Reverse(spec.Defs)
	checkConfusions(t, spec, 2, "wile", api.Confusion{Kind: 0, Price: 10}, api.Confusion{Kind: 3, Price: 5})
	checkConfusions(t, spec, 2, strings.Repeat("while", 1000))
}

// A keyword is compared by its sample, which its pattern may write in another way. What other definitions have as samples makes no difference.
func TestKeywordsAreCompared(t *testing.T) { // P14.3
	spec := api.LexSpec{Defs: []api.TokenDef{
		plain("word", "[a-z]+", "elsf"), {Name: "sum", Kind: api.TokenKeyword, Pattern: `\+\+`, Sample: "++"}, {Name: "elsewhere", Kind: api.TokenKeyword, Pattern: "E(lse)", Sample: "Else"},
		skip("space", "[ E]+", "E"), closedBy("e", api.TokenDef{Name: "end", Kind: api.TokenKeyword, Pattern: "End", Sample: "End"}), plain("other", "Els", "Els"),
	}, Misspelling: 1000}
	checkConfusions(t, spec, 0, "else", api.Confusion{Kind: 2, Price: 1000})
	checkConfusions(t, spec, 0, "elsf", api.Confusion{Kind: 2, Price: 2000})
	checkConfusions(t, spec, 5, "Els", api.Confusion{Kind: 2, Price: 1000}, api.Confusion{Kind: 4, Price: 2000})
	checkConfusions(t, spec, 0, "elsewhere")
	checkConfusions(t, spec, 0, `\+\+`, api.Confusion{Kind: 1, Price: 2000})
	checkConfusions(t, spec, 0, "", api.Confusion{Kind: 1, Price: 2000})
	checkConfusions(t, spec, 0, "e", api.Confusion{Kind: 1, Price: 2000})
	checkConfusions(t, spec, 0, "end", api.Confusion{Kind: 4, Price: 1000})
	checkConfusions(t, spec, 0, "+", api.Confusion{Kind: 1, Price: 1000})
}

func TestOtherTokensHaveNoConfusions(t *testing.T) { // P14.3
	spec := language()
	for _, layout := range []bool{false, true} {
		spec.Layout = layout
		count := len(spec.Defs)
		for _, kind := range []int{0, 2, 10, 4, 8, 9, count, count + 1, count + 2, count + 3, -2, -3, 1000, 1 << 32, 1<<32 + 1, math.MinInt, math.MaxInt} {
			for _, text := range []string{"if", "fi", "i", "iff", "retur_", "while_", "'", "'a", "@", "", " "} {
				checkConfusions(t, spec, kind, text)
			}
		}
		checkConfusions(t, spec, 1, "fi", api.Confusion{Kind: 0, Price: 4})
		checkConfusions(t, spec, 3, "fi", api.Confusion{Kind: 0, Price: 4})
		checkConfusions(t, spec, 7, "whlie", api.Confusion{Kind: 10, Price: 8})
		checkConfusions(t, spec, 1, "'", api.Confusion{Kind: 0, Price: 8})
		checkConfusions(t, spec, 1, "retun", api.Confusion{Kind: 2, Price: 8})
	}
}

func TestPrices(t *testing.T) { // P14.3
	for _, misspelling := range []int{0, 1, 2, 500, 1000} {
		for _, unclosed := range []int{0, 1, 2, 500, 1000} {
			spec := language()
			spec.Misspelling, spec.Unclosed = misspelling, unclosed
			var one, two, open, both []api.Confusion
			if misspelling > 0 {
				one, two = []api.Confusion{{Kind: 0, Price: misspelling}}, []api.Confusion{{Kind: 0, Price: 2 * misspelling}}
			}
			if unclosed > 0 {
				open, both = []api.Confusion{{Kind: 5, Price: unclosed}}, []api.Confusion{{Kind: 3, Price: unclosed}, {Kind: 7, Price: unclosed}}
			}
			checkConfusions(t, spec, 1, "fi", one...)
			checkConfusions(t, spec, 1, "ifab", two...)
			checkConfusions(t, spec, 1, "ifabc")
			checkConfusions(t, spec, -1, "'''ab", open...)
			checkConfusions(t, spec, -1, "'ab", both...)
			checkConfusions(t, spec, -1, "fi")
		}
	}
}

// eachToken calls f with valid specifications and tokens of all kinds.
func eachToken(t *testing.T, f func(spec api.LexSpec, token api.Token)) {
	t.Helper()
	random := rand.New(rand.NewSource(3))
	eachCase(t, func(spec api.LexSpec, l []api.Token) {
		for i := random.Intn(5); i < len(l); i += 5 {
			f(spec, l[i])
		}
		near := []byte(spec.Defs[random.Intn(len(spec.Defs))].Sample)
		random.Shuffle(min(3, len(near)), func(i, j int) { near[i], near[j] = near[j], near[i] })
		f(spec, api.Token{Kind: random.Intn(len(spec.Defs)+5) - 2, Text: string(near[random.Intn(len(near)):]) + randomString(random, "ab'", 2)})
	})
}

func TestConfusionsOfManyTokens(t *testing.T) { // P14.3
	var found [3]int
	eachToken(t, func(spec api.LexSpec, token api.Token) {
		want := modelConfusions(spec, token)
		checkConfusions(t, spec, token.Kind, token.Text, want...)
		if token.Kind >= 0 && len(want) > 0 {
			found[0]++
		}
		if token.Kind == -1 && len(want) > 0 {
			found[1]++
		}
		if len(want) > 1 {
			found[2]++
		}
	})
	if slices.Min(found[:]) < 500 {
		t.Errorf("P14.3: only %d misspelled and %d unclosed tokens, %d of them with several confusions", found[0], found[1], found[2])
	}
}

func TestMemoryOfConfusions(t *testing.T) { // P14.3
	spec := language()
	for _, token := range []api.Token{{Kind: -1, Text: "'a"}, {Kind: 1, Text: "fi"}} {
		first := lexrepair.Confusions(spec, token)
		want := slices.Clone(first)
		second := lexrepair.Confusions(spec, token)
		for i := range second[:cap(second)] {
			second[:cap(second)][i] = api.Confusion{Kind: -7, Price: -7}
		}
		if !slices.Equal(first, want) || !slices.Equal(lexrepair.Confusions(spec, token), want) {
			t.Errorf("P14.3: %+v: two results share memory", token)
		}
	}
}
