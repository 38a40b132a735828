package lexer_test

import (
	"math"
	"math/rand"
	"slices"
	"strings"
	"testing"

	"emendate/api"
	"emendate/dfa"
	"emendate/lexer"
)

func TestLexOfEmptyText(t *testing.T) { // P12.1
	_, d := language(t)
	random := rand.New(rand.NewSource(1))
	l := []api.DFA{d, bytewise(), ring(1), ring(500), compile(t, "a+", "ab"), compile(t, "a*"), compile(t, "()")}
	for range 300 {
		l = append(l, randomDFA(random, 6, 5))
	}
	for _, d := range l {
		if got := lexer.Lex(d, ""); len(got) != 0 {
			t.Errorf("P12.1: %s: tokens of the empty text: %+v", show(d), got)
		}
	}
}

func TestLexOfTheChapter(t *testing.T) { // P12.1
	d := compile(t, "a+", "ab")
	for s, want := range map[string][]api.Token{
		"aaabx": {{Kind: 0, At: 0, Text: "aaa", Look: 4}, {Kind: -1, At: 3, Text: "b", Look: 1}, {Kind: -1, At: 4, Text: "x", Look: 1}},
		"ab":    {{Kind: 1, At: 0, Text: "ab", Look: 3}},
		"a":     {{Kind: 0, At: 0, Text: "a", Look: 2}},
		"aa":    {{Kind: 0, At: 0, Text: "aa", Look: 3}},
		"aab":   {{Kind: 0, At: 0, Text: "aa", Look: 3}, {Kind: -1, At: 2, Text: "b", Look: 1}},
		"abab":  {{Kind: 1, At: 0, Text: "ab", Look: 3}, {Kind: 1, At: 2, Text: "ab", Look: 3}},
		"aba":   {{Kind: 1, At: 0, Text: "ab", Look: 3}, {Kind: 0, At: 2, Text: "a", Look: 2}},
		"axab":  {{Kind: 0, At: 0, Text: "a", Look: 2}, {Kind: -1, At: 1, Text: "x", Look: 1}, {Kind: 1, At: 2, Text: "ab", Look: 3}},
		"b":     {{Kind: -1, At: 0, Text: "b", Look: 1}},
		"ba":    {{Kind: -1, At: 0, Text: "b", Look: 1}, {Kind: 0, At: 1, Text: "a", Look: 2}},
	} {
		checkLex(t, d, s, want)
	}
}

// The automaton reads on behind the last match, up to a byte without a transition or up to the end.
func TestLookBehindTheMatch(t *testing.T) { // P12.1
	long := compile(t, "a", "abcd")
	only := compile(t, "abcd")
	some := compile(t, "a", "abc", "abcdefg")
	for _, x := range []struct {
		d    api.DFA
		s    string
		want []piece
	}{
		{long, "a", []piece{{"a", 0, 2}}},
		{long, "ab", []piece{{"a", 0, 3}, {"b", -1, 1}}},
		{long, "abc", []piece{{"a", 0, 4}, {"b", -1, 1}, {"c", -1, 1}}},
		{long, "abcd", []piece{{"abcd", 1, 5}}},
		{long, "abcde", []piece{{"abcd", 1, 5}, {"e", -1, 1}}},
		{long, "abcda", []piece{{"abcd", 1, 5}, {"a", 0, 2}}},
		{long, "ax", []piece{{"a", 0, 2}, {"x", -1, 1}}},
		{long, "abx", []piece{{"a", 0, 3}, {"b", -1, 1}, {"x", -1, 1}}},
		{long, "abcx", []piece{{"a", 0, 4}, {"b", -1, 1}, {"c", -1, 1}, {"x", -1, 1}}},
		{long, "abca", []piece{{"a", 0, 4}, {"b", -1, 1}, {"c", -1, 1}, {"a", 0, 2}}},
		{long, "aabcd", []piece{{"a", 0, 2}, {"abcd", 1, 5}}},
		{long, "abcabcd", []piece{{"a", 0, 4}, {"b", -1, 1}, {"c", -1, 1}, {"abcd", 1, 5}}},
		{long, "abab", []piece{{"a", 0, 3}, {"b", -1, 1}, {"a", 0, 3}, {"b", -1, 1}}},
		// An error token has looked as far, although only its byte is its text.
		{only, "abcd", []piece{{"abcd", 0, 5}}},
		{only, "a", []piece{{"a", -1, 2}}},
		{only, "ab", []piece{{"a", -1, 3}, {"b", -1, 1}}},
		{only, "abc", []piece{{"a", -1, 4}, {"b", -1, 1}, {"c", -1, 1}}},
		{only, "abcx", []piece{{"a", -1, 4}, {"b", -1, 1}, {"c", -1, 1}, {"x", -1, 1}}},
		{only, "aabcdab", []piece{{"a", -1, 2}, {"abcd", 0, 5}, {"a", -1, 3}, {"b", -1, 1}}},
		{only, "ababcd", []piece{{"a", -1, 3}, {"b", -1, 1}, {"abcd", 0, 5}}},
		// The last of several matches, not the first.
		{some, "abcdefg", []piece{{"abcdefg", 2, 8}}},
		{some, "abcdef", []piece{{"abc", 1, 7}, {"d", -1, 1}, {"e", -1, 1}, {"f", -1, 1}}},
		{some, "abcdea", []piece{{"abc", 1, 6}, {"d", -1, 1}, {"e", -1, 1}, {"a", 0, 2}}},
		{some, "abca", []piece{{"abc", 1, 4}, {"a", 0, 2}}},
		{some, "abc", []piece{{"abc", 1, 4}}},
		{some, "aba", []piece{{"a", 0, 3}, {"b", -1, 1}, {"a", 0, 2}}},
	} {
		checkLex(t, x.d, x.s, tokens(x.want...))
	}
}

// States from which no match is reached are read through as well.
func TestLookThroughDeadStates(t *testing.T) { // P12.1
	d := automaton(classes("a", "b"), []int{-1, 0, -1, -1}, []int{3, 1, -1}, []int{-1, -1, 2}, []int{2, 2, -1}, []int{-1, 3, -1})
	for s, want := range map[string][]piece{
		"ab":      {{"a", 0, 3}, {"b", -1, 1}},
		"abaax":   {{"a", 0, 6}, {"b", -1, 1}, {"a", 0, 2}, {"a", 0, 2}, {"x", -1, 2}},
		"abxxb":   {{"a", 0, 5}, {"b", -1, 1}, {"x", -1, 2}, {"x", -1, 2}, {"b", -1, 1}},
		"xaab":    {{"x", -1, 4}, {"a", 0, 2}, {"a", 0, 3}, {"b", -1, 1}},
		"xaa":     {{"x", -1, 4}, {"a", 0, 2}, {"a", 0, 2}},
		"bxa\xff": {{"b", -1, 1}, {"x", -1, 3}, {"a", 0, 2}, {"\xff", -1, 2}},
	} {
		checkLex(t, d, s, tokens(want...))
	}
}

func TestErrorTokens(t *testing.T) { // P12.1
	d := compile(t, "[a-c]+", "x")
	for s, want := range map[string][]piece{
		"?":                {{"?", -1, 1}},
		"??":               {{"?", -1, 1}, {"?", -1, 1}},
		"\x00\xff\x00":     {{"\x00", -1, 1}, {"\xff", -1, 1}, {"\x00", -1, 1}},
		"??abc":            {{"?", -1, 1}, {"?", -1, 1}, {"abc", 0, 4}},
		"abc??":            {{"abc", 0, 4}, {"?", -1, 1}, {"?", -1, 1}},
		"a\x00\xffx":       {{"a", 0, 2}, {"\x00", -1, 1}, {"\xff", -1, 1}, {"x", 1, 2}},
		"\xffab\x00xx\xff": {{"\xff", -1, 1}, {"ab", 0, 3}, {"\x00", -1, 1}, {"x", 1, 2}, {"x", 1, 2}, {"\xff", -1, 1}},
		"é":                {{"\xc3", -1, 1}, {"\xa9", -1, 1}},
		"\xe2\x82a":        {{"\xe2", -1, 1}, {"\x82", -1, 1}, {"a", 0, 2}},
		"a d":              {{"a", 0, 2}, {" ", -1, 1}, {"d", -1, 1}},
		"A\nB":             {{"A", -1, 1}, {"\n", -1, 1}, {"B", -1, 1}},
		"a\x00":            {{"a", 0, 2}, {"\x00", -1, 1}},
		"\x00a":            {{"\x00", -1, 1}, {"a", 0, 2}},
		"\xff":             {{"\xff", -1, 1}},
		"cc\xff\xff\xffbb": {{"cc", 0, 3}, {"\xff", -1, 1}, {"\xff", -1, 1}, {"\xff", -1, 1}, {"bb", 0, 3}},
	} {
		checkLex(t, d, s, tokens(want...))
	}
}

// The bytes 0 and 255 may also be parts of tokens.
func TestOuterBytes(t *testing.T) { // P12.1
	d := automaton(classes("\xff", "\x00"), []int{-1, 3, 8}, []int{-1, 1, 2}, []int{-1, 1, -1}, []int{-1, 1, -1})
	for s, want := range map[string][]piece{
		"\x00":             {{"\x00", 8, 2}},
		"\xff":             {{"\xff", 3, 2}},
		"\x00\xff\xff":     {{"\x00\xff\xff", 3, 4}},
		"\xff\x00\x00":     {{"\xff", 3, 2}, {"\x00", 8, 2}, {"\x00", 8, 2}},
		"\xff\xfe\x01\x00": {{"\xff", 3, 2}, {"\xfe", -1, 1}, {"\x01", -1, 1}, {"\x00", 8, 2}},
		"\u00ff":           {{"\xc3", -1, 1}, {"\xbf", -1, 1}},
	} {
		checkLex(t, d, s, tokens(want...))
	}
}

func TestEveryByte(t *testing.T) { // P12.1
	for b := range 256 {
		one := string([]byte{byte(b)})
		d := automaton(classes(one), []int{-1, 4}, []int{-1, 1}, []int{-1, -1})
		for c := range 256 {
			other := string([]byte{byte(c)})
			if b == c {
				checkLex(t, d, one+one, tokens(piece{one, 4, 2}, piece{one, 4, 2}))
				continue
			}
			checkLex(t, d, other, tokens(piece{other, -1, 1}))
			checkLex(t, d, one+other+one, tokens(piece{one, 4, 2}, piece{other, -1, 1}, piece{one, 4, 2}))
		}
	}
}

// The empty part is no match; a nonempty part behind which the automaton is in state 0 again may be one.
func TestStartStateThatAccepts(t *testing.T) { // P12.1
	still := automaton(classes("a"), []int{5}, []int{-1, -1})
	loop := automaton(classes("a"), []int{5}, []int{-1, 0})
	away := automaton(classes("a"), []int{5, -1}, []int{-1, 1}, []int{-1, -1})
	back := automaton(classes("a", "b"), []int{5, -1}, []int{-1, 1, -1}, []int{-1, -1, 0})
	both := automaton(classes("a", "b"), []int{5, 2}, []int{-1, 1, -1}, []int{-1, -1, 0})
	for _, x := range []struct {
		d    api.DFA
		s    string
		want []piece
	}{
		{still, "a", []piece{{"a", -1, 1}}},
		{still, "ab", []piece{{"a", -1, 1}, {"b", -1, 1}}},
		{loop, "a", []piece{{"a", 5, 2}}},
		{loop, "aab", []piece{{"aa", 5, 3}, {"b", -1, 1}}},
		{loop, "bbaa", []piece{{"b", -1, 1}, {"b", -1, 1}, {"aa", 5, 3}}},
		{away, "a", []piece{{"a", -1, 2}}},
		{away, "aa", []piece{{"a", -1, 2}, {"a", -1, 2}}},
		{away, "ba", []piece{{"b", -1, 1}, {"a", -1, 2}}},
		{back, "ab", []piece{{"ab", 5, 3}}},
		{back, "a", []piece{{"a", -1, 2}}},
		{back, "aba", []piece{{"ab", 5, 4}, {"a", -1, 2}}},
		{back, "abab", []piece{{"abab", 5, 5}}},
		{back, "abaab", []piece{{"ab", 5, 4}, {"a", -1, 2}, {"ab", 5, 3}}},
		{back, "b", []piece{{"b", -1, 1}}},
		{both, "aba", []piece{{"aba", 2, 4}}},
		{both, "abab", []piece{{"abab", 5, 5}}},
		{both, "abb", []piece{{"ab", 5, 3}, {"b", -1, 1}}},
		{both, "aab", []piece{{"a", 2, 2}, {"ab", 5, 3}}},
	} {
		checkLex(t, x.d, x.s, tokens(x.want...))
	}
}

func TestNoStateAccepts(t *testing.T) { // P12.1
	none := automaton(classes("a"), []int{-1, -1}, []int{-1, -1}, []int{1, 1})
	one := automaton(classes("a"), []int{-1}, []int{-1, 0})
	two := automaton(classes("a", "b"), []int{-1, -1}, []int{-1, 1, 0}, []int{-1, -1, 1})
	all := automaton(classes(), []int{-1}, []int{0})
	for _, x := range []struct {
		d    api.DFA
		s    string
		want []piece
	}{
		{none, "ab", []piece{{"a", -1, 1}, {"b", -1, 1}}},
		{one, "aaa", []piece{{"a", -1, 4}, {"a", -1, 3}, {"a", -1, 2}}},
		{one, "aab", []piece{{"a", -1, 3}, {"a", -1, 2}, {"b", -1, 1}}},
		{two, "bbabba", []piece{{"b", -1, 6}, {"b", -1, 5}, {"a", -1, 4}, {"b", -1, 4}, {"b", -1, 3}, {"a", -1, 2}}},
		{all, "x\x00\xff", []piece{{"x", -1, 4}, {"\x00", -1, 3}, {"\xff", -1, 2}}},
	} {
		checkLex(t, x.d, x.s, tokens(x.want...))
	}
}

func TestOneState(t *testing.T) { // P12.1
	random := rand.New(rand.NewSource(2))
	texts := allStrings("ab\xff", 5)
	for _, class := range [][]int{classes(), classes("a"), classes("a", "b"), classes("\x01")} {
		for _, row := range lists(3, 0) {
			for _, number := range []int{-1, 0, 1, 40} {
				d := automaton(class, []int{number}, row)
				for range 40 {
					s := texts[random.Intn(len(texts))]
					checkLex(t, d, s, model(d, s))
				}
			}
		}
	}
	whole := automaton(classes(), []int{3}, []int{0})
	for _, s := range []string{"a", "a\x00\xff", strings.Repeat("x", 4000)} {
		checkLex(t, whole, s, tokens(piece{s, 3, len(s) + 1}))
	}
}

func TestNumbersOfClasses(t *testing.T) { // P12.1
	d := bytewise()
	var all []byte
	var want []piece
	for b := range 256 {
		all = append(all, byte(255-b))
		want = append(want, piece{string(all[b : b+1]), 255 - b, 2})
	}
	checkLex(t, d, string(all), tokens(want...))
	// More classes than bytes, the last ones first.
	wide := automaton(nil, []int{-1, 1}, slices.Repeat([]int{-1}, 300), slices.Repeat([]int{-1}, 300))
	for b := range 256 {
		wide.Class = append(wide.Class, 299-b)
	}
	wide.Next[0][299-'a'] = 1
	wide.Next[1][299-'b'] = 1
	wide.Next[1][0], wide.Next[0][0], wide.Next[0]['a'] = 0, 0, 0 // of no byte
	checkLex(t, wide, "aabbac", tokens(piece{"a", 1, 2}, piece{"abb", 1, 4}, piece{"a", 1, 2}, piece{"c", -1, 1}))
	// One class: all bytes are alike.
	pairs := automaton(classes(), []int{-1, -1, 6}, []int{1}, []int{2}, []int{-1})
	checkLex(t, pairs, "a\x00\xffbc", tokens(piece{"a\x00", 6, 3}, piece{"\xffb", 6, 3}, piece{"c", -1, 2}))
}

func TestAcceptedNumbers(t *testing.T) { // P12.1
	for _, first := range []int{-1, 0, 1, 2, 39, 255, 256, 500, 1 << 32, math.MaxInt} {
		for _, second := range []int{-1, 0, 1, 2, 40, 499, math.MaxInt - 1, math.MaxInt} {
			d := automaton(classes("a", "b"), []int{-1, first, second}, []int{-1, 1, -1}, []int{-1, -1, 2}, []int{-1, -1, -1})
			want := []piece{{"ab", second, 3}}
			if second < 0 {
				want = []piece{{"a", first, 3}, {"b", -1, 1}}
			}
			checkLex(t, d, "ab", tokens(want...))
			checkLex(t, d, "a", tokens(piece{"a", first, 2}))
		}
	}
}

func TestLexOfALanguage(t *testing.T) { // P12.1
	_, d := language(t)
	for s, want := range map[string][]piece{
		"while x":      {{"while", 0, 6}, {" ", 3, 2}, {"x", 2, 2}},
		"whiles while": {{"whiles", 2, 7}, {" ", 3, 2}, {"while", 0, 6}},
		"whil\n":       {{"whil", 2, 5}, {"\n", 3, 2}},
		"x=1.5":        {{"x", 2, 2}, {"=", 6, 2}, {"1.5", 4, 4}},
		"1.x":          {{"1", 4, 3}, {".", -1, 2}, {"x", 2, 2}},
		"1.":           {{"1", 4, 3}, {".", -1, 2}},
		"1..2":         {{"1", 4, 3}, {".", -1, 3}, {".", -1, 2}, {"2", 4, 2}},
		"1...":         {{"1", 4, 3}, {"...", 6, 4}},
		"..":           {{".", -1, 3}, {".", -1, 2}},
		"<==":          {{"<=", 6, 3}, {"=", 6, 2}},
		"< =":          {{"<", 6, 2}, {" ", 3, 2}, {"=", 6, 2}},
		`"a"x`:         {{`"a"`, 5, 4}, {"x", 2, 2}},
		`"a\"`:         {{`"`, -1, 5}, {"a", 2, 2}, {`\`, -1, 1}, {`"`, -1, 2}},
		"\"ab\nc\"":    {{`"`, -1, 4}, {"ab", 2, 3}, {"\n", 3, 2}, {"c", 2, 2}, {`"`, -1, 2}},
		"/**/ /":       {{"/**/", 1, 5}, {" ", 3, 2}, {"/", 6, 2}},
		"/*x":          {{"/", 6, 4}, {"*", 6, 2}, {"x", 2, 2}},
		"/* * **/*":    {{"/* * **/", 1, 9}, {"*", 6, 2}},
		"?x":           {{"?", -1, 1}, {"x", 2, 2}},
	} {
		checkLex(t, d, s, tokens(want...))
	}
}

func TestLexOfLongTexts(t *testing.T) { // P12.1
	d := ring(500)
	for _, n := range []int{1, 499, 500, 501, 4000, 100000} {
		s := strings.Repeat("a", n)
		checkLex(t, d, s, tokens(piece{s, n % 500, n + 1}))
		checkLex(t, d, s+"b"+s, tokens(piece{s, n % 500, n + 1}, piece{"b", -1, 1}, piece{s, n % 500, n + 1}))
	}
	// From each offset the automaton reads up to the end.
	far := compile(t, "a", "a*b")
	var want []piece
	for i := range 4000 {
		want = append(want, piece{"a", 0, 4001 - i})
	}
	checkLex(t, far, strings.Repeat("a", 4000), tokens(want...))
	checkLex(t, far, strings.Repeat("a", 4000)+"b", tokens(piece{strings.Repeat("a", 4000) + "b", 1, 4002}))
}

func TestLexOfAllSmallAutomata(t *testing.T) { // P12.1
	texts := allStrings("abc", 4)
	for states := 1; states <= 2; states++ {
		for _, d := range smallAutomata(classes("a", "b"), states, 3, 1) {
			for _, s := range texts {
				if got, want := lexer.Lex(d, s), model(d, s); !slices.Equal(got, want) {
					t.Errorf("P12.1: %s: Lex(%q): %+v, want %+v", show(d), s, got, want)
				}
			}
		}
	}
}

func TestLexOfRandomAutomata(t *testing.T) { // P12.1
	random := rand.New(rand.NewSource(1))
	for range 8000 {
		d := randomDFA(random, 8, 5)
		if !dfa.Valid(d) {
			t.Fatalf("not valid: %s", show(d))
		}
		for range 5 {
			s := randomText(random, 16)
			checkLex(t, d, s, model(d, s))
		}
	}
	_, d := language(t)
	for range 4000 {
		s := randomProgram(random, 16)
		checkLex(t, d, s, model(d, s))
	}
}

// Rules 5 and 6: the arguments remain as they are, and no call depends on one before it. The rules of the language: a result has memory of its own.
func TestMemory(t *testing.T) { // P12.1
	d := compile(t, "a+", "ab")
	d.Next = append(d.Next, []int{0, 0, 0})[:len(d.Next)]
	d.Accept = append(d.Accept, 5)[:len(d.Accept)]
	before, spare := copyOf(d), slices.Clone(d.Next[:len(d.Next)+1])
	first := lexer.Lex(d, "aaabx")
	want := slices.Clone(first)
	second := lexer.Lex(d, "aaabx")
	lexer.Lex(ring(7), "aaa")
	for i := range second[:cap(second)] {
		second[:cap(second)][i] = api.Token{Kind: 9, At: 9, Text: "9", Look: 9}
	}
	if !slices.Equal(first, want) {
		t.Error("P12.1: two results share memory")
	}
	checkLex(t, d, "aaabx", want)
	if !equalAutomata(d, before) || d.Accept[:len(d.Accept)+1][len(d.Accept)] != 5 || !slices.EqualFunc(d.Next[:len(d.Next)+1], spare, slices.Equal[[]int]) {
		t.Error("P12.1: an automaton is changed")
	}
}

// What Lex does with automata that are not valid is unspecified, but it does not panic.
func TestInvalidAutomata(t *testing.T) { // P12.1
	for i, d := range []api.DFA{
		{},
		{Class: make([]int, 256)},
		{Class: make([]int, 256), Accept: []int{0}},
		{Class: make([]int, 255), Next: [][]int{{0}}, Accept: []int{0}},
		{Class: make([]int, 256), Next: [][]int{nil}, Accept: []int{0}},
		{Class: make([]int, 256), Next: [][]int{{0}}},
		{Class: make([]int, 256), Next: [][]int{{1}}, Accept: []int{0}},
		{Class: make([]int, 256), Next: [][]int{{-2}}, Accept: []int{0}},
		{Class: make([]int, 256), Next: [][]int{{0}}, Accept: []int{-2}},
		{Class: make([]int, 256), Next: [][]int{{0, 1}, {0}}, Accept: []int{0, 0}},
		{Class: slices.Repeat([]int{1}, 256), Next: [][]int{{0}}, Accept: []int{0}},
		{Class: slices.Repeat([]int{-1}, 256), Next: [][]int{{0}}, Accept: []int{0}},
		ring(501),
	} {
		for _, s := range []string{"", "a", "b\xff", "aaa"} {
			if l := lexer.Lex(d, s); len(l) != 0 {
				t.Errorf("P12.1: invalid automaton %d: Lex(%q): %+v", i, s, l)
			}
		}
	}
}
