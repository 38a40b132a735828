package lexrepair_test

import (
	"math"
	"slices"
	"strings"
	"testing"

	"emendate/api"
	"emendate/lexer"
	"emendate/lexrepair"
	"emendate/lexspec"
)

// checkMerge compares what Merge makes of tokens with what it should make.
func checkMerge(t *testing.T, spec api.LexSpec, l, want []api.Token) {
	t.Helper()
	arg, before := copyOf(spec), copyOf(spec)
	mark := api.Token{Kind: 77, At: -5, Text: "mark", Look: 7}
	longer := append(slices.Clone(l), mark, mark)
	got := lexrepair.Merge(arg, longer[:len(l)])
	if !slices.Equal(got, want) {
		t.Errorf("P14.2: %s: Merge(%+v): %+v, want %+v", show(spec), l, got, want)
	}
	if !equalSpecs(arg, before) || !slices.Equal(longer, append(slices.Clone(l), mark, mark)) {
		t.Errorf("P14.2: %s: %+v: the arguments are changed", show(spec), l)
	}
}

// An example is a text whose tokens are separated by |, and the tokens after merging.
type example struct{ before, after string }

// checkExamples compares the texts of merged tokens, and everything else with the model.
func checkExamples(t *testing.T, spec api.LexSpec, l ...example) {
	t.Helper()
	d := compile(t, spec)
	for _, x := range l {
		tokens := lexer.Lex(d, strings.ReplaceAll(x.before, "|", ""))
		if got := strings.Join(texts(tokens), "|"); got != x.before {
			t.Errorf("%q has the tokens %q", x.before, got)
		}
		if got := strings.Join(texts(lexrepair.Merge(spec, tokens)), "|"); got != x.after {
			t.Errorf("P14.2: %q: %q, want %q", x.before, got, x.after)
		}
		checkMerge(t, spec, tokens, modelMerge(spec, tokens))
	}
}

func TestMergeOfTheChapter(t *testing.T) { // P14.2
	spec := api.LexSpec{Defs: []api.TokenDef{plain("word", "[a-z]+", "x"), skip("blank", " ", " "), closedBy("'", plain("text", `'[^'\n]*'`, "''"))}, Unclosed: 1}
	checkMerge(t, spec,
		sequence(0, api.Token{Kind: 0, Text: "x", Look: 2}, api.Token{Kind: 1, Text: " ", Look: 2}, api.Token{Kind: -1, Text: "'", Look: 6}, api.Token{Kind: 0, Text: "ab", Look: 3}, api.Token{Kind: 1, Text: " ", Look: 2}, api.Token{Kind: 0, Text: "c", Look: 2}),
		[]api.Token{{Kind: 0, At: 0, Text: "x", Look: 2}, {Kind: 1, At: 1, Text: " ", Look: 2}, {Kind: -1, At: 2, Text: "'ab c", Look: 6}})
	checkExamples(t, spec, example{"x| |'|ab| |c", "x| |'ab c"})
}

func TestNothingToMerge(t *testing.T) { // P14.2
	checkExamples(t, language(),
		example{"", ""}, example{"x", "x"}, example{"if| |'ab c'|\n|'x'", "if| |'ab c'|\n|'x'"}, example{"\n|\n ", "\n|\n "}, example{"''|\"\"|@ab c;", "''|\"\"|@ab c;"},
		// Error tokens that begin nothing.
		example{"?", "?"}, example{"?|?|a| |?", "?|?|a| |?"}, example{"\xff|\x00|\n|\x80", "\xff|\x00|\n|\x80"}, example{"a| |;", "a| |;"},
		// The rest of the line is not what is missing only its delimiter.
		example{"'|a|\\", "'|a|\\"}, example{"'|\\", "'|\\"}, example{"@|?", "@|?"}, example{"@|a|1|\n|@|a| |A", "@|a|1|\n|@|a| |A"})
	for _, l := range [][]api.Token{nil, {}, make([]api.Token, 0, 5)} {
		checkMerge(t, language(), l, nil)
	}
}

func TestMergedLines(t *testing.T) { // P14.2
	checkExamples(t, language(),
		// At the end of the text.
		example{"'", "'"}, example{"'|a", "'a"}, example{"'|a| |b", "'a b"}, example{"'|?|?", "'??"}, example{"@", "@"}, example{"@|a| |if", "@a if"}, example{"'|\xff|a|\x00", "'\xffa\x00"},
		// Before a line feed.
		example{"'|a|\n", "'a|\n"}, example{"'|a|\n|x", "'a|\n|x"}, example{"'|a| |b|\n  ", "'a b|\n  "}, example{"'|\n", "'|\n"}, example{"@|ab|\n|\n", "@ab|\n|\n"}, example{"'|a| |\n", "'a |\n"},
		// Tokens before it on the line, and a token that is terminated.
		example{"x| |'|a| |b", "x| |'a b"}, example{"?|'|a", "?|'a"}, example{"'a'|b|'|c", "'a'|b|'c"}, example{"''|'|a", "''|'a"}, example{"\"a'\"|'|\"|b", "\"a'\"|'\"b"},
		// The first error token of the line that begins such a token.
		example{"?|@|?|'|a| |@", "?|@|?|'a @"}, example{"@|a|'|b", "@|a|'b"}, example{"'|a|@|b", "'a@b"}, example{"@|@|a", "@|@a"}, example{"\\|'|\\|\"|?", "\\|'\\\"?"},
		// Tokens in it that are longer than one byte, or are keywords.
		example{"'|return_| |while_|if", "'return_ while_if"}, example{"'|\"a b\"|/*a*/|@a;|b", "'\"a b\"/*a*/@a;b"},
		// Several lines, with several merged tokens.
		example{"'|a|\n|'|b|\n|@|c| |d|\n|x| |'|?", "'a|\n|'b|\n|@c d|\n|x| |'?"},
		example{"'|a|\n|x|\n|?|\n |'|\n|'b'|\n|'|b", "'a|\n|x|\n|?|\n |'|\n|'b'|\n|'b"})
}

// A token that reaches beyond the line feed prevents merging, and one that begins with it does not.
func TestLinesThatEndInAToken(t *testing.T) { // P14.2
	spec := api.LexSpec{Defs: []api.TokenDef{plain("word", "[a-z]+", "x"), closedBy("'", plain("text", `'[^'\n]*'`, "''")), skip("space", `[ \n]+`, " "), plain("lines", `"[^"]*"`, `""`), plain("end", `;\n*`, ";")}, Unclosed: 1000}
	checkExamples(t, spec,
		example{"'|ab| \n|x", "'|ab| \n|x"}, example{"'| \n", "'| \n"}, example{"'|;\n", "'|;\n"}, example{"'|;\n\n|x", "'|;\n\n|x"}, example{"'|a|\"b\nc\"|d", "'|a|\"b\nc\"|d"}, example{"'|\"\n\"", "'|\"\n\""},
		example{"'|ab|\n|x", "'ab|\n|x"}, example{"'|ab|\n \n|x", "'ab|\n \n|x"}, example{"'|\n ", "'|\n "}, example{"'|;", "';"}, example{"'|a| ", "'a "}, example{"'|a|\"\"|;|;", "'a\"\";;"},
		// Error tokens on that line do not end there either, and those of other lines are merged.
		example{"'|?|a|?| \n|'|b", "'|?|a|?| \n|'b"}, example{"'|a|\n|'|b| \n|'|c", "'a|\n|'|b| \n|'c"}, example{"'|a|\"b\nc\"|'|d", "'|a|\"b\nc\"|'d"})
}

func TestDefinitionsThatCount(t *testing.T) { // P14.2
	quoted := plain("text", `'[^'\n]*'`, "''")
	of := func(defs ...api.TokenDef) api.LexSpec {
		return api.LexSpec{Defs: append([]api.TokenDef{plain("word", "[a-z]+", "x")}, defs...), Misspelling: 3, Unclosed: 5}
	}
	same, merged := example{"'|a|?", "'|a|?"}, example{"'|a|?", "'a?"}
	checkExamples(t, of(quoted), same)
	checkExamples(t, of(closedBy("\"", quoted)), same)
	checkExamples(t, of(closedBy("''", quoted)), same)
	checkExamples(t, of(closedBy("'", quoted)), merged)
	checkExamples(t, of(closedBy(" '", quoted)), merged)
	checkExamples(t, of(closedBy("???'", quoted)), merged)
	disabled := of(closedBy("'", quoted))
	disabled.Unclosed = 0
	checkExamples(t, disabled, same)
	skipped := closedBy("'", quoted)
	skipped.Kind = api.TokenSkip
	checkExamples(t, of(skipped), same)
	checkExamples(t, of(skipped, closedBy(";", plain("other", `'[a-z?]*;`, "';"))), merged)
	checkExamples(t, of(closedBy("]", plain("one", `\([a-z]*\]`, "(]")), closedBy(")", plain("two", `\([0-9]*\)`, "()"))), example{"(|ab", "(ab"}, example{"(|1|2", "(12"}, example{"(|a|1", "(|a|1"}, example{"(", "("})
	// Keywords.
	checkExamples(t, of(closedBy("c", api.TokenDef{Name: "key", Kind: api.TokenKeyword, Pattern: "'abc", Sample: "'abc"})), example{"'|ab", "'ab"}, example{"'|a", "'|a"}, example{"'|b", "'|b"}, example{"'|ab| ", "'|ab| "})
	// Delimiters of several bytes.
	checkExamples(t, of(closedBy("*/", plain("comment", `/\*([^*]|\*+[^*/])*\*+/`, "/**/"))), example{"/|*|a| |b", "/*a b"}, example{"/|*|a|*", "/*a*"}, example{"/|*", "/*"}, example{"/", "/"}, example{"/|a", "/|a"}, example{"/|*|a|\n|*", "/*a|\n|*"}, example{"/*a\nb*/|/|*|\n|*|a", "/*a\nb*/|/*|\n|*|a"})
}

// The tokens of these lists need not be those of a lexer.
func TestFirstTokenThatEndsThere(t *testing.T) { // P14.2
	spec := language()
	token := func(kind int, text string) api.Token { return api.Token{Kind: kind, Text: text, Look: len(text)} }
	quote, a, line, empty := token(-1, "'"), token(1, "a"), token(9, "\n"), token(12, "")
	merged := func(text string) api.Token { return token(-1, text) }
	for _, at := range []int{0, 4, -9, math.MinInt, math.MaxInt - 20} {
		for _, x := range [][2][]api.Token{
			{{quote, a, empty}, {merged("'a"), empty}},
			{{quote, a, empty, empty, line, quote}, {merged("'a"), empty, empty, line, quote}},
			{{quote, empty, a, empty}, {merged("'a"), empty}},
			{{quote, empty, empty}, {quote, empty, empty}},
			{{quote, empty, empty, line}, {quote, empty, empty, line}},
			{{empty, quote, empty, a, empty, quote, a}, {empty, quote, empty, a, empty, merged("'a")}},
			{{empty, quote, empty, a, empty, a}, {empty, merged("'aa")}},
			// Error tokens that are empty, or longer than one byte.
			{{token(-1, ""), quote, a}, {merged("'a")}},
			{{token(-1, ""), token(-1, ""), token(-1, "@a"), a, empty}, {merged("@aa"), empty}},
			{{token(-1, ""), line, quote, a}, {token(-1, ""), line, merged("'a")}},
			{{token(-1, "'a b"), empty, a}, {merged("'a ba")}},
			{{token(-1, "'a\nb"), a, quote, a}, {token(-1, "'a\nb"), a, merged("'a")}},
			{{token(-1, "'a\n"), quote}, {token(-1, "'a\n"), quote}},
			{{token(-1, "\n'"), a}, {token(-1, "\n'"), a}},
			{{quote, a, token(1, "a\na"), quote, a}, {quote, a, token(1, "a\na"), merged("'a")}},
			{{quote, token(0, "\n\n"), quote, a, token(4, "\n")}, {quote, token(0, "\n\n"), merged("'a"), token(4, "\n")}},
			// Other kinds.
			{{token(-2, "'"), a}, {token(-2, "'"), a}},
			{{token(math.MinInt, "'"), a}, {token(math.MinInt, "'"), a}},
			{{token(11, "'"), a}, {token(11, "'"), a}},
			{{quote, token(-2, "a"), token(math.MaxInt, "a")}, {merged("'aa")}},
		} {
			want := sequence(at, x[1]...)
			for i := range want {
				if want[i].Kind == -1 {
					want[i].Look = len(want[i].Text)
				}
			}
			checkMerge(t, spec, sequence(at, x[0]...), want)
		}
	}
}

// An empty error token may lack nothing but the delimiter; it is replaced by itself.
func TestEmptyErrorTokens(t *testing.T) { // P14.2
	spec := api.LexSpec{Defs: []api.TokenDef{closedBy(";", plain("end", "a*;", ";")), closedBy("c", plain("c", "c", "c"))}, Unclosed: 1}
	for _, x := range []struct{ before, after []string }{
		{[]string{""}, []string{""}},
		{[]string{"", "", ""}, []string{"", "", ""}},
		{[]string{"", "\n", ""}, []string{"", "\n", ""}},
		{[]string{"", "a", "a", "", "\n"}, []string{"aa", "", "\n"}},
		{[]string{"", "b", "a", "", "\n", ""}, []string{"", "b", "a", "", "\n", ""}},
		{[]string{"", "", "a", "\n", "aa", "b", "aa", "a"}, []string{"a", "\n", "aa", "b", "aaa"}},
	} {
		errors := func(texts []string) []api.Token {
			var l []api.Token
			for _, text := range texts {
				l = append(l, api.Token{Kind: -1, Text: text, Look: len(text)})
			}
			return sequence(-3, l...)
		}
		checkMerge(t, spec, errors(x.before), errors(x.after))
	}
}

func TestLookOfMergedTokens(t *testing.T) { // P14.2
	for _, x := range []struct {
		looks []int
		want  int
	}{
		{[]int{9, 3, 1}, 9}, {[]int{1, 9, 1}, 10}, {[]int{1, 3, 9}, 12}, {[]int{4, 3, 1}, 4}, {[]int{3, 3, 1}, 4}, {[]int{4, 3, 2}, 5}, {[]int{0, 0, 0}, 3}, {[]int{1, 1, -1}, 2}, {[]int{-5, -1, -3}, 0}, {[]int{-3, -4, -6}, -3},
		{[]int{math.MaxInt, 1, 1}, math.MaxInt}, {[]int{1, 1, math.MaxInt - 3}, math.MaxInt}, {[]int{math.MinInt, math.MinInt, math.MinInt}, math.MinInt + 3},
	} {
		for _, at := range []int{0, 7, -100, math.MinInt, math.MaxInt - 20} {
			l := sequence(at,
				api.Token{Kind: 1, Text: "x", Look: 50}, api.Token{Kind: 8, Text: "  ", Look: 60},
				api.Token{Kind: -1, Text: "'", Look: x.looks[0]}, api.Token{Kind: 1, Text: "ab", Look: x.looks[1]}, api.Token{Kind: 8, Text: " ", Look: x.looks[2]},
				api.Token{Kind: 9, Text: "\n ", Look: 70}, api.Token{Kind: -1, Text: "?", Look: 80})
			want := slices.Concat(l[:2], []api.Token{{Kind: -1, At: l[2].At, Text: "'ab ", Look: x.want}}, l[5:])
			checkMerge(t, language(), l, want)
		}
	}
	// The begin of a comment in the merged token is read up to the end of the text.
	spec := language()
	l := lexrepair.Merge(spec, lexer.Lex(compile(t, spec), "x'a /* b\nc\nd"))
	if len(l) != 6 || l[1] != (api.Token{Kind: -1, At: 1, Text: "'a /* b", Look: 12}) {
		t.Errorf("P14.2: %+v", l)
	}
}

func TestMergeOfLongTexts(t *testing.T) { // P14.2
	spec := language()
	d := compile(t, spec)
	garbage := strings.Repeat("?", 3000)
	for _, x := range []struct{ text, after string }{
		{garbage, strings.Join(strings.Split(garbage, ""), "|")},
		{"'" + garbage, "'" + garbage},
		{garbage + "'a", strings.Repeat("?|", 3000) + "'a"},
		{strings.Repeat("'a\n", 1000), strings.Repeat("|'a|\n", 1000)[1:]},
		{strings.Repeat("'a 'b?", 500) + "'", strings.Repeat("|'a '|b|?", 500)[1:] + "|'"},
		{strings.Repeat("@a ", 1000), strings.Repeat("|@|a| ", 999)[1:] + "|@a "},
	} {
		if got := strings.Join(texts(lexrepair.Merge(spec, lexer.Lex(d, x.text))), "|"); got != x.after {
			t.Errorf("P14.2: %.60q: %.200q, want %.200q", x.text, got, x.after)
		}
	}
}

func TestMergeOfManyTexts(t *testing.T) { // P14.2
	merged, closable := 0, 0
	eachCase(t, func(spec api.LexSpec, l []api.Token) {
		want := modelMerge(spec, l)
		checkMerge(t, spec, l, want)
		if len(want) < len(l) {
			merged++
		}
		for i, token := range want {
			if len(want) == len(l) && token.Kind == -1 && slices.ContainsFunc(spec.Defs, func(def api.TokenDef) bool { return modelClosable(spec, def, lineRest(l[i:])) }) {
				closable++
			}
		}
	})
	if merged < 1500 || closable < 1500 {
		t.Errorf("P14.2: only %d texts with merged tokens, and %d tokens that are not merged although they lack only the delimiter", merged, closable)
	}
}

func TestMemoryOfMerge(t *testing.T) { // P14.2
	eachCase(t, func(spec api.LexSpec, l []api.Token) {
		before := slices.Clone(l)
		first := lexrepair.Merge(spec, l)
		want := slices.Clone(first)
		second := lexrepair.Merge(spec, l)
		for i := range second[:cap(second)] {
			second[:cap(second)][i] = api.Token{Kind: 9, At: 9, Text: "9", Look: 9}
		}
		if !slices.Equal(l, before) || !slices.Equal(first, want) {
			t.Errorf("P14.2: %+v: a result shares memory with the tokens or with another result", before)
		}
	})
}

// What is made of other arguments is unspecified. Definitions whose pattern is none do not count, and nothing panics.
func TestOtherArguments(t *testing.T) { // P14.2, P14.3
	broken := api.LexSpec{Defs: []api.TokenDef{{}, closedBy("'", plain("", "(", "")), closedBy("'", plain("", "'*", "")), closedBy("\xff", plain("", "'.|"+strings.Repeat("(a|b)*a[ab]", 300), "")), {Kind: 9, Pattern: "'", Close: "'"}}, Unclosed: math.MaxInt, Misspelling: math.MaxInt}
	if _, err := lexspec.Check(broken); err == api.OK {
		t.Error("P14.2: a broken specification is valid")
	}
	for _, spec := range []api.LexSpec{{}, {Unclosed: 1, Misspelling: 1}, {Unclosed: -1, Misspelling: -1, Defs: language().Defs}, broken} {
		for _, l := range [][]api.Token{nil, {{Kind: -1, Text: "?"}, {Text: "if"}}, {{Kind: -1, At: math.MaxInt, Text: "?", Look: math.MaxInt}, {Kind: 1, At: math.MinInt, Text: "iff", Look: math.MinInt}, {Kind: -1, Text: "\n?"}}} {
			if got := lexrepair.Merge(spec, l); !slices.Equal(got, l) {
				t.Errorf("P14.2: %s: %+v: %+v", show(spec), l, got)
			}
			for _, token := range l {
				if got := lexrepair.Confusions(spec, token); len(got) != 0 {
					t.Errorf("P14.3: %s: %+v: %+v", show(spec), token, got)
				}
			}
		}
	}
	negative := language()
	negative.Unclosed, negative.Misspelling = -1, -1
	checkMerge(t, negative, sequence(0, api.Token{Kind: -1, Text: "'"}, api.Token{Kind: 1, Text: "a"}), sequence(0, api.Token{Kind: -1, Text: "'"}, api.Token{Kind: 1, Text: "a"}))
	checkConfusions(t, negative, -1, "'a")
	checkConfusions(t, negative, 1, "fi")
	// Tokens that do not begin where the one before them ends.
	lexrepair.Merge(language(), []api.Token{{Kind: -1, At: math.MaxInt, Text: "'", Look: math.MaxInt}, {Kind: 1, At: math.MinInt, Text: "iff", Look: math.MinInt}, {Kind: 9, Text: "\n?"}})
}
