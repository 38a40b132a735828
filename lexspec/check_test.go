package lexspec_test

import (
	"fmt"
	"math"
	"math/rand"
	"slices"
	"strings"
	"testing"

	"emendate/api"
	"emendate/dfa"
	"emendate/nfa"
	"emendate/regex"
)

// letters returns so many valid definitions: the first 26 are letters, the others two of them.
func letters(count int) []api.TokenDef {
	var l []api.TokenDef
	for i := range count {
		name := string([]byte{byte('a' + i%26)})
		if i >= 26 {
			name = "z" + strings.Repeat(name, i/26)
		}
		l = append(l, plain(name, name, name))
	}
	return l
}

func TestExamples(t *testing.T) { // P11.1
	word, key := plain("word", "[a-z]+", "x"), keyword("if", "if", "if")
	check(t, of(word, key), 1, api.ErrMismatch)
	check(t, of(key, word), 0, api.OK)
}

func TestValidSpecifications(t *testing.T) { // P11.1
	for _, spec := range validSpecs() {
		check(t, spec, 0, api.OK)
	}
}

func TestNumberOfDefinitions(t *testing.T) { // P11.1
	for _, count := range []int{1, 2, 20, 39, 40} {
		check(t, of(letters(count)...), 0, api.OK)
	}
	for _, count := range []int{41, 42, 80, 1000} {
		check(t, of(letters(count)...), 0, api.ErrLimit)
	}
	check(t, api.LexSpec{}, 0, api.ErrLimit)
	check(t, of([]api.TokenDef{}...), 0, api.ErrLimit)
	check(t, api.LexSpec{Layout: true, Misspelling: 5, Unclosed: 5}, 0, api.ErrLimit)
	// Before all other conditions.
	check(t, api.LexSpec{Misspelling: -1, Unclosed: 1001}, 0, api.ErrLimit)
	check(t, of(make([]api.TokenDef, 41)...), 0, api.ErrLimit)
	check(t, of(make([]api.TokenDef, 40)...), 0, api.ErrName)
	broken := letters(41)
	broken[1].Kind = 0
	check(t, api.LexSpec{Defs: broken, Misspelling: -1}, 0, api.ErrLimit)
}

// checkName compares what Check says of a name, for the only definition and for the last one of three.
func checkName(t *testing.T, name string, want api.Errno) {
	t.Helper()
	d := plain(name, "n", "n")
	check(t, of(d), 0, want)
	index := 0
	if want != api.OK {
		index = 2
	}
	check(t, api.LexSpec{Defs: []api.TokenDef{plain("other", "x", "x"), skip("Name_2", "y", "y"), d}, Layout: true}, index, want)
}

func TestNames(t *testing.T) { // P11.1
	for _, name := range []string{
		"a", "z", "A", "Z", "a_", "a1", "a__9", "Z9z_", "aB", "x0123456789", "start", "left", "Newline", "NEWLINE", "newlines", "newlin", "new_line",
		"indents", "inden", "Indent", "dedent1", "edent", "dedenT", strings.Repeat("a", 23), strings.Repeat("Z", 24), "a" + strings.Repeat("_", 23), "q" + strings.Repeat("9", 23),
	} {
		checkName(t, name, api.OK)
	}
	for _, name := range []string{
		"", "newline", "indent", "dedent", "1", "0a", "9", "_", "_a", "__", "a-b", "a b", " a", "a ", "a.b", "a\n", "a\x00", "\x00", "é", "aé", "a\xff", "ａ",
		strings.Repeat("a", 25), strings.Repeat("a", 26), strings.Repeat("Ab_1", 1000), "a" + strings.Repeat("_", 24), "1" + strings.Repeat("a", 24),
	} {
		checkName(t, name, api.ErrName)
	}
}

func TestBytesOfNames(t *testing.T) { // P11.1
	const letters = "abcdefghijklmnopqrstuvwxyzABCDEFGHIJKLMNOPQRSTUVWXYZ"
	for i := range 256 {
		b := string([]byte{byte(i)})
		for _, x := range []struct{ name, allowed string }{
			{b, letters},
			{b + "a", letters},
			{b + "_0", letters},
			{"a" + b, letters + "0123456789_"},
			{"a" + b + "c", letters + "0123456789_"},
			{"Z9_" + b + "_", letters + "0123456789_"},
			{strings.Repeat("a", 23) + b, letters + "0123456789_"},
			{strings.Repeat("a", 22) + b + "a", letters + "0123456789_"},
			{b + strings.Repeat("a", 23), letters},
			{strings.Repeat("a", 24) + b, ""},
		} {
			want := api.OK
			if !strings.Contains(x.allowed, b) {
				want = api.ErrName
			}
			checkName(t, x.name, want)
		}
	}
}

func TestNamesThatStandTwice(t *testing.T) { // P11.1
	for _, x := range [][2]int{{0, 1}, {1, 2}, {0, 2}, {0, 39}, {38, 39}, {5, 17}, {25, 26}} {
		l := letters(40)
		l[x[1]].Name = l[x[0]].Name
		check(t, of(l...), x[1], api.ErrDuplicate)
		check(t, of(l[:x[1]]...), 0, api.OK)
		for i := x[1] + 1; i < len(l); i++ { // more of the same do not count
			l[i].Name = l[x[0]].Name
		}
		check(t, of(l...), x[1], api.ErrDuplicate)
		l = letters(40)
		l[x[1]] = l[x[0]] // as a whole
		check(t, of(l...), x[1], api.ErrDuplicate)
	}
	// The names are compared as a whole, and byte by byte.
	long := strings.Repeat("n", 23)
	check(t, of(plain("a", "a", "a"), plain("A", "b", "b"), plain("aa", "c", "c"), plain("a_", "d", "d"), plain(long+"x", "e", "e"), plain(long+"y", "f", "f"), plain(long, "g", "g")), 0, api.OK)
	// The kinds make no difference.
	check(t, of(plain("a", "a", "a"), skip("b", "b", "b"), keyword("a", "c", "c")), 2, api.ErrDuplicate)
	check(t, of(skip("a", "a", "a"), skip("a", "b", "b")), 1, api.ErrDuplicate)
}

func TestKinds(t *testing.T) { // P11.1
	for _, kind := range []int{-1 << 31, math.MinInt, -3, -2, -1, 0, 1, 2, 3, 4, 5, 6, 255, 256, 257, 258, 259, 1<<32 + 1, math.MaxInt} {
		d := api.TokenDef{Name: "d", Kind: kind, Pattern: "d", Sample: "d"}
		want := api.OK
		if kind != api.TokenPlain && kind != api.TokenSkip && kind != api.TokenKeyword {
			want = api.ErrArg
		}
		check(t, of(d), 0, want)
		index := 0
		if want != api.OK {
			index = 1
		}
		check(t, of(plain("a", "a", "a"), d, plain("b", "b", "b")), index, want)
	}
}

// deep returns a pattern of an expression that is nested so deeply, an odd number, and does not match the empty string.
func deep(depth int) string {
	pattern := "a"
	for range depth / 2 {
		pattern = "(" + pattern + ")*b"
	}
	return pattern
}

func TestPatternsThatCannotBeParsed(t *testing.T) { // P11.1
	for pattern, want := range map[string]api.Errno{
		"(": api.ErrSyntax, ")": api.ErrSyntax, "a)": api.ErrSyntax, "(a": api.ErrSyntax, "[": api.ErrSyntax, "[a": api.ErrSyntax, "[]": api.ErrSyntax, "[^]": api.ErrSyntax,
		"]": api.ErrSyntax, "*": api.ErrSyntax, "+a": api.ErrSyntax, "?": api.ErrSyntax, "a|*": api.ErrSyntax, "(*)": api.ErrSyntax, `\`: api.ErrSyntax, `\a`: api.ErrSyntax, `a\`: api.ErrSyntax,
		"[b-a]": api.ErrSyntax, "[a-]": api.ErrSyntax, "[-a]": api.ErrSyntax, "\n": api.ErrSyntax, "a\x00": api.ErrSyntax, "\x7f": api.ErrSyntax, "\xff": api.ErrSyntax, "é": api.ErrSyntax,
		"a*(":                                              api.ErrSyntax, // before it is known whether it matches the empty string
		"a" + strings.Repeat("*", 30):                      api.ErrLimit,
		"a" + strings.Repeat("*", 300):                     api.ErrLimit,
		deep(31):                                           api.ErrLimit,
		"b(" + deep(29) + "|b)":                            api.ErrLimit,
		"(" + strings.Repeat("*", 31):                      api.ErrSyntax,
		strings.Repeat("*", 31) + "(":                      api.ErrSyntax,
		"a" + strings.Repeat("*", 31) + "(":                api.ErrSyntax,
		strings.Repeat("(", 100) + strings.Repeat(")", 99): api.ErrSyntax,
	} {
		if _, _, err := regex.Parse(pattern); err != want {
			t.Fatalf("Parse(%q): error %d, want %d", pattern, err, want)
		}
		check(t, of(plain("p", pattern, "a")), 0, want)
		check(t, of(plain("x", "x", "x"), skip("y", "y", "y"), keyword("p", pattern, "a")), 2, want)
	}
	for pattern, sample := range map[string]string{
		"b|(" + deep(29) + ")": "b", deep(29): strings.Repeat("b", 14), "a" + strings.Repeat("*", 28) + "b": "b",
		strings.Repeat("(", 100) + "a" + strings.Repeat(")", 100): "a", `\(`: "(", `[\]]`: "]", `\*`: "*", `\n`: "\n", `\\`: `\`, `[a\-]`: "-", "[^\\n]": "\xff", "a|b": "b",
	} {
		check(t, of(plain("p", pattern, sample)), 0, api.OK)
	}
}

func TestPatternsThatMatchTheEmptyString(t *testing.T) { // P11.1
	for _, pattern := range []string{"", "()", "a*", "a?", "a|", "|a", "a||b", "(a*)+", "(a?)+", "a*b*", "a*|b", "b|a?", "(a|b*)c?", "()()", "(()|a)(b|())", "a*?", "a?*", ".*", "[^a]*", "a" + strings.Repeat("*", 28)} {
		check(t, of(plain("p", pattern, "a")), 0, api.ErrEmpty)
		check(t, of(plain("p", pattern, "")), 0, api.ErrEmpty)
		check(t, of(plain("x", "x", "x"), keyword("p", pattern, "a"), plain("z", "z", "z")), 1, api.ErrEmpty)
		check(t, of(plain("p", "("+pattern+")c", "c")), 0, api.OK)
	}
}

func TestClose(t *testing.T) { // P11.1
	for b := range 256 {
		one, want, index := string([]byte{byte(b)}), api.OK, 0
		if b < 32 || b > 126 {
			want, index = api.ErrArg, 1
		}
		for _, text := range []string{one, one + "a", "a" + one, "  " + one + "~~", one + one, strings.Repeat("*/", 500) + one} {
			for _, d := range []api.TokenDef{plain("c", "c", "c"), skip("c", "c", "c"), keyword("c", "c", "c")} {
				d.Close = text
				check(t, of(d), 0, want)
				check(t, of(plain("x", "x", "x"), d, plain("y", "y", "y")), index, want)
			}
		}
	}
	for text, want := range map[string]api.Errno{"": api.OK, " ": api.OK, "~": api.OK, "'": api.OK, "*/": api.OK, " !\"#~": api.OK, "\x1f": api.ErrArg, "\x7f": api.ErrArg, "é": api.ErrArg, "a\nb": api.ErrArg, "\t": api.ErrArg, "\x00": api.ErrArg} {
		d := plain("c", "c", "c")
		d.Close = text
		check(t, of(d), 0, want)
	}
}

func TestPrices(t *testing.T) { // P11.1
	for _, price := range []int{math.MinInt, -1000, -2, -1, 0, 1, 2, 500, 999, 1000, 1001, 1002, 1 << 31, 1 << 32, 1<<40 + 1, math.MaxInt} {
		for _, count := range []int{1, 2, 7, 40} {
			want, index := api.OK, 0
			if price < 0 || price > 1000 {
				want, index = api.ErrArg, count
			}
			for _, other := range []int{0, 1, 1000} {
				check(t, api.LexSpec{Defs: letters(count), Misspelling: price, Unclosed: other}, index, want)
				check(t, api.LexSpec{Defs: letters(count), Misspelling: other, Unclosed: price, Layout: true}, index, want)
			}
			check(t, api.LexSpec{Defs: letters(count), Misspelling: price, Unclosed: price}, index, want)
		}
	}
	check(t, api.LexSpec{Defs: letters(3), Misspelling: -1, Unclosed: 1001}, 3, api.ErrArg)
}

// word returns a string of the given length.
func word(length int) string { return strings.Repeat("abcdefghijk", length/11+1)[:length] }

// limitIf returns the error of a specification that is beyond a limit or not.
func limitIf(beyond bool) api.Errno {
	if beyond {
		return api.ErrLimit
	}
	return api.OK
}

func TestLimitOfNodes(t *testing.T) { // P11.1
	x, y := plain("x", "x", "x"), plain("y", "y", "y")
	for _, length := range []int{497, 498, 499, 500, 501, 1000, 10000} {
		nodes := length + 1 // the concatenation is one, too
		for _, kind := range []int{api.TokenPlain, api.TokenSkip, api.TokenKeyword} {
			d := api.TokenDef{Name: "w", Kind: kind, Pattern: word(length), Sample: word(length)}
			check(t, of(d), 0, limitIf(nodes > 500))
			check(t, of(d, x), 0, limitIf(nodes+1 > 500))
			check(t, of(x, y, d), 0, limitIf(nodes+2 > 500))
		}
	}
	// Nodes that are no sets count, although the automaton has few states.
	for _, d := range []api.TokenDef{plain("a", "", "a"), keyword("a", "", "a")} {
		for nodes := 498; nodes < 503; nodes++ {
			d.Pattern = "a" + strings.Repeat("()", nodes-2)
			check(t, of(d), 0, limitIf(nodes > 500))
			d.Pattern = "a" + strings.Repeat("|a", nodes-2)
			check(t, of(d), 0, limitIf(nodes > 500))
		}
	}
}

// The nodes of 40 patterns, of which some have 13 and the others 12.
func TestLimitOfNodesOfManyPatterns(t *testing.T) { // P11.1
	for _, more := range []int{0, 19, 20, 21, 40} {
		for _, kind := range []int{api.TokenPlain, api.TokenKeyword} {
			l := letters(40)
			for i := range l {
				text := string([]byte{byte('A' + i%20), byte('0' + i/20)}) + word(9)
				if i < more {
					text += "z"
				}
				l[i].Kind, l[i].Pattern, l[i].Sample = kind, text, text
			}
			check(t, of(l...), 0, limitIf(480+more > 500))
		}
	}
}

// back returns a pattern of the strings whose byte at a place from the end is an a.
func back(place int) string { return "(a|b)*a" + strings.Repeat("[ab]", place-1) }

// sets returns the number of nonempty sets of states that the subset construction reaches, found with layer 9, by strings over a to d.
func sets(t *testing.T, spec api.LexSpec) int {
	t.Helper()
	n, err := nfa.FromRegexes(parseAll(t, spec))
	if err != api.OK {
		t.Fatalf("%s: error %d", show(spec), err)
	}
	found := [][]int{nfa.Closure(n, []int{n.Start})}
	known := map[string]bool{fmt.Sprint(found[0]): true}
	for i := 0; i < len(found); i++ {
		for _, b := range []byte("abcd") {
			next := nfa.Step(n, found[i], b)
			if len(next) > 0 && !known[fmt.Sprint(next)] {
				known[fmt.Sprint(next)] = true
				found = append(found, next)
			}
		}
	}
	return len(found)
}

func TestLimitOfSets(t *testing.T) { // P11.1
	check(t, of(plain("back", back(8), "abbbbbbb")), 0, api.OK)
	check(t, of(plain("back", back(9), "abbbbbbbb")), 0, api.ErrLimit)
	check(t, of(plain("back", back(9), "")), 0, api.ErrLimit) // before samples
	// The sets of two patterns together, of which the second adds one for each of its bytes.
	few := sets(t, of(plain("back", back(8), "abbbbbbb")))
	for _, more := range []int{-2, -1, 0, 1, 2, 50} {
		tail := "c" + strings.Repeat("d", api.MaxStates-few-1+more)
		spec := of(plain("back", back(8), "abbbbbbb"), plain("tail", tail, tail))
		if count := sets(t, spec); count != api.MaxStates+more {
			t.Fatalf("%d sets instead of %d", count, api.MaxStates+more)
		}
		check(t, spec, 0, limitIf(more > 0))
		slices.Reverse(spec.Defs)
		check(t, spec, 0, limitIf(more > 0))
		spec.Defs[0].Kind = api.TokenKeyword
		check(t, spec, 0, limitIf(more > 0))
	}
	// Two patterns whose automata are small, unlike that of both.
	a, c := plain("a", "[abc]*a"+strings.Repeat("[abc]", 5), "aaaaaa"), plain("c", "[abc]*c"+strings.Repeat("[abc]", 5), "cbbbbb")
	if sets(t, of(a)) > 100 || sets(t, of(c)) > 100 || sets(t, of(a, c)) <= api.MaxStates {
		t.Fatal("wrong patterns")
	}
	check(t, of(a), 0, api.OK)
	check(t, of(c), 0, api.OK)
	check(t, of(a, c), 0, api.ErrLimit)
}

func TestSamples(t *testing.T) { // P11.1
	small, num := plain("small", "[a-m]+", "ab"), plain("num", "[0-9]+", "42")
	with := func(d api.TokenDef, sample string) api.TokenDef {
		d.Sample = sample
		return d
	}
	letter := plain("letter", "[a-z]+", "az")
	for _, x := range []struct {
		defs  []api.TokenDef
		index int // of the sample that is none, or -1
	}{
		{[]api.TokenDef{small, letter, num}, -1},
		{[]api.TokenDef{small, with(letter, "z"), num}, -1},
		{[]api.TokenDef{small, with(letter, "abcn"), num}, -1},
		// An earlier definition matches it.
		{[]api.TokenDef{small, with(letter, "a"), num}, 1},
		{[]api.TokenDef{small, num, with(letter, "abc")}, 2},
		{[]api.TokenDef{letter, small, num}, 1},
		{[]api.TokenDef{small, with(num, "m"), letter}, 1},
		{[]api.TokenDef{letter, num, plain("other", "[a-z0-9]+", "a")}, 2},
		{[]api.TokenDef{letter, num, plain("other", "[a-z0-9]+", "0")}, 2},
		{[]api.TokenDef{letter, num, plain("other", "[a-z0-9]+", "0a")}, -1},
		// No definition matches it.
		{[]api.TokenDef{with(small, ""), letter, num}, 0},
		{[]api.TokenDef{small, letter, with(num, "")}, 2},
		{[]api.TokenDef{small, with(letter, "A"), num}, 1},
		{[]api.TokenDef{small, with(letter, "az "), num}, 1},
		{[]api.TokenDef{small, with(letter, " az"), num}, 1},
		{[]api.TokenDef{small, with(letter, "az1"), num}, 1},
		{[]api.TokenDef{small, letter, with(num, "4\x00")}, 2},
		{[]api.TokenDef{with(small, "\xff"), letter, num}, 0},
		// Only a later one does.
		{[]api.TokenDef{with(small, "n"), letter, num}, 0},
		{[]api.TokenDef{with(small, "7"), letter, num}, 0},
		{[]api.TokenDef{small, with(letter, "7"), num}, 1},
		// Several samples are none.
		{[]api.TokenDef{small, with(letter, "a"), with(num, "")}, 1},
		{[]api.TokenDef{with(small, "z"), with(letter, "a"), with(num, "")}, 0},
	} {
		for _, kind := range []int{api.TokenPlain, api.TokenSkip} {
			for i := range x.defs {
				x.defs[i].Kind = kind
			}
			if x.index < 0 {
				check(t, of(x.defs...), 0, api.OK)
			} else {
				check(t, of(x.defs...), x.index, api.ErrMismatch)
			}
		}
	}
	check(t, of(keyword("if", "if", "iff")), 0, api.ErrMismatch)
	check(t, of(keyword("if", "if", "i")), 0, api.ErrMismatch)
	check(t, of(keyword("if", "if", "")), 0, api.ErrMismatch)
	check(t, of(keyword("if", "if", "IF")), 0, api.ErrMismatch)
	check(t, of(keyword("if", "if", "if"), keyword("fi", "if", "if")), 1, api.ErrMismatch)
	check(t, of(plain("a", "a+", strings.Repeat("a", 100000))), 0, api.OK)
	check(t, of(plain("a", "a+", strings.Repeat("a", 100000)+"b")), 0, api.ErrMismatch)
}

func TestKeywords(t *testing.T) { // P11.1
	for _, x := range []struct {
		pattern, sample string
		want            api.Errno
	}{
		{"a", "a", api.OK},
		{"if", "if", api.OK},
		{"(i)(f)", "if", api.OK},
		{"[i][f]", "if", api.OK},
		{"[i-i]f", "if", api.OK},
		{"if|if", "if", api.OK},
		{"i(f|f)|if()", "if", api.OK},
		{"(ab|ab)c()*", "abc", api.OK},
		{"()+(()|())a", "a", api.OK},
		{`\(\*`, "(*", api.OK},
		{`\n`, "\n", api.OK},
		{`\t\\ `, "\t\\ ", api.OK},
		// Another string: of the same length, a shorter one, a longer one.
		{"[if]", "i", api.ErrConflict},
		{"[if]", "f", api.ErrConflict},
		{"i[fn]", "if", api.ErrConflict},
		{"[io]f", "of", api.ErrConflict},
		{"abc|abd", "abc", api.ErrConflict},
		{"abc|abd", "abd", api.ErrConflict},
		{"abc|bbc", "bbc", api.ErrConflict},
		{"ab?", "a", api.ErrConflict},
		{"ab?", "ab", api.ErrConflict},
		{"a?b", "b", api.ErrConflict},
		{"a?b", "ab", api.ErrConflict},
		{"ab|abc", "ab", api.ErrConflict},
		{"ab|abc", "abc", api.ErrConflict},
		{"a|bcdefgh", "a", api.ErrConflict},
		{"a|bcdefgh", "bcdefgh", api.ErrConflict},
		{"aa*", "a", api.ErrConflict},
		{"a+", "aa", api.ErrConflict},
		{"a*b", "b", api.ErrConflict},
		{"a*b", "aab", api.ErrConflict},
		{"(ab)+", "ab", api.ErrConflict},
		{"(ab)+", "abab", api.ErrConflict},
		{"i(fi)*f", "if", api.ErrConflict},
		{".", "a", api.ErrConflict},
		{"a.", "ab", api.ErrConflict},
		{"[^a]", "b", api.ErrConflict},
		{"[^a]", "\x00", api.ErrConflict},
		{"[^a]", "\xff", api.ErrConflict},
		{"[aA]", "a", api.ErrConflict},
		{"if |if", "if", api.ErrConflict},
		{"[a`]", "a", api.ErrConflict},
		{"[ab]", "a", api.ErrConflict},
		{"[ ~]", "~", api.ErrConflict},
	} {
		check(t, of(keyword("key", x.pattern, x.sample)), 0, x.want)
		// Whatever stands before and behind it.
		index := 0
		if x.want != api.OK {
			index = 1
		}
		check(t, of(plain("x", "xx+", "xx"), keyword("key", x.pattern, x.sample), plain("y", "[ -~]+y+", "yy")), index, x.want)
		// The other kinds may match more.
		check(t, of(plain("key", x.pattern, x.sample)), 0, api.OK)
		check(t, of(skip("key", x.pattern, x.sample)), 0, api.OK)
	}
}

// What the pattern of a keyword matches counts even if earlier definitions take it.
func TestKeywordsBehindOthers(t *testing.T) { // P11.1
	check(t, of(plain("x", "x", "x"), keyword("if", "if|x", "if")), 1, api.ErrConflict)
	check(t, of(keyword("x", "x", "x"), keyword("y", "x|y", "y")), 1, api.ErrConflict)
	check(t, of(keyword("x", "x", "x"), keyword("y", "[xy]", "y"), plain("z", "z", "z")), 1, api.ErrConflict)
	check(t, of(skip("long", "aaa*", "aa"), keyword("a", "aa*", "a")), 1, api.ErrConflict)
	check(t, of(skip("long", "aaa*", "aa"), keyword("a", "a", "a")), 0, api.OK)
	check(t, of(plain("not", "[^a]|..+", "b"), keyword("a", "a|bb", "a")), 1, api.ErrConflict)
	// A later one that matches the keyword, too, does not count.
	check(t, of(keyword("if", "if", "if"), keyword("of", "of", "of"), plain("word", "[a-z]+", "x")), 0, api.OK)
	check(t, of(keyword("if", "if", "if"), keyword("iff", "iff", "iff"), keyword("i", "i", "i")), 0, api.OK)
	// The first keyword that matches more.
	check(t, of(keyword("a", "a", "a"), keyword("b", "b|c", "b"), keyword("c", "d|e", "d")), 1, api.ErrConflict)
	check(t, of(plain("b", "b|c", "b"), plain("c", "d|e", "d"), keyword("f", "fg?", "f")), 2, api.ErrConflict)
}

// Keywords of about as many bytes as an automaton can have states, and samples of more.
func TestLongKeywords(t *testing.T) { // P11.1
	const most = api.MaxStates - 1
	for _, length := range []int{most - 2, most - 1, most} {
		text := word(length)
		check(t, of(keyword("w", text, text)), 0, api.OK)
		other := text[:length-1] + "[" + text[length-1:] + "z]"
		check(t, of(keyword("w", other, text)), 0, api.ErrConflict)
		other = "[z" + text[:1] + "]" + text[1:]
		check(t, of(keyword("w", other, text)), 0, api.ErrConflict)
		check(t, of(keyword("w", text, text[1:])), 0, api.ErrMismatch)
		check(t, of(keyword("w", text, text+"a")), 0, api.ErrMismatch)
	}
	for _, length := range []int{1, 2, most - 1, most, most + 1, most + 2, most + 3, 100000} {
		check(t, of(keyword("a", "aa*", strings.Repeat("a", length))), 0, api.ErrConflict)
		check(t, of(keyword("a", "b|aa*", strings.Repeat("a", length))), 0, api.ErrConflict)
		check(t, of(keyword("a", "aaa*", strings.Repeat("a", length+1)), plain("b", "b", "c")), 0, api.ErrConflict)
	}
}

// A fault makes definition i of a specification invalid. Where two faults of one field meet, the later one would undo the earlier one.
type fault struct {
	field string
	step  int // the number of the condition in the chapter
	err   api.Errno
	make  func(spec *api.LexSpec, i int)
}

// index returns the index that belongs to a fault of definition i of count.
func (f fault) index(i, count int) int {
	switch f.step {
	case 3:
		return count
	case 4:
		return 0
	}
	return i
}

// faults returns faults in the order in which they are found in one definition.
func faults() []fault {
	return []fault{
		{"name", 2, api.ErrName, func(spec *api.LexSpec, i int) { spec.Defs[i].Name = "1" }},
		{"name", 2, api.ErrName, func(spec *api.LexSpec, i int) { spec.Defs[i].Name = "indent" }},
		{"name", 2, api.ErrDuplicate, func(spec *api.LexSpec, i int) { spec.Defs[i].Name = spec.Defs[0].Name }},
		{"kind", 2, api.ErrArg, func(spec *api.LexSpec, i int) { spec.Defs[i].Kind = 4 }},
		{"pattern", 2, api.ErrSyntax, func(spec *api.LexSpec, i int) { spec.Defs[i].Pattern = "a*(" }},
		{"pattern", 2, api.ErrLimit, func(spec *api.LexSpec, i int) { spec.Defs[i].Pattern = "a" + strings.Repeat("*", 30) }},
		{"pattern", 2, api.ErrEmpty, func(spec *api.LexSpec, i int) { spec.Defs[i].Pattern = "a*" }},
		{"close", 2, api.ErrArg, func(spec *api.LexSpec, i int) { spec.Defs[i].Close = "\n" }},
		{"misspelling", 3, api.ErrArg, func(spec *api.LexSpec, i int) { spec.Misspelling = -1 }},
		{"unclosed", 3, api.ErrArg, func(spec *api.LexSpec, i int) { spec.Unclosed = 1001 }},
		{"pattern", 4, api.ErrLimit, func(spec *api.LexSpec, i int) { spec.Defs[i].Pattern = word(500) }},
		{"pattern", 4, api.ErrLimit, func(spec *api.LexSpec, i int) { spec.Defs[i].Pattern = back(9) }},
		{"sample", 5, api.ErrMismatch, func(spec *api.LexSpec, i int) { spec.Defs[i].Sample = "?" }},
		{"pattern", 5, api.ErrConflict, func(spec *api.LexSpec, i int) { spec.Defs[i].Pattern += "|0" }},
	}
}

// fourKeywords returns a valid specification without a fault.
func fourKeywords() api.LexSpec {
	return of(keyword("a", "A", "A"), keyword("b", "B", "B"), keyword("c", "C", "C"), keyword("d", "D", "D"))
}

func TestOneFault(t *testing.T) { // P11.1
	for _, f := range faults() {
		for i := 1; i < 4; i++ {
			spec := fourKeywords()
			f.make(&spec, i)
			check(t, spec, f.index(i, 4), f.err)
			check(t, api.LexSpec{Defs: spec.Defs[:i+1], Misspelling: spec.Misspelling, Unclosed: spec.Unclosed}, f.index(i, i+1), f.err)
		}
	}
}

func TestTwoFaultsOfOneDefinition(t *testing.T) { // P11.1
	l := faults()
	for k, second := range l {
		for _, first := range l[:k] {
			if first.field == second.field {
				continue
			}
			for i := 1; i < 4; i++ {
				for _, order := range [][]fault{{first, second}, {second, first}} {
					spec := fourKeywords()
					order[0].make(&spec, i)
					order[1].make(&spec, i)
					check(t, spec, first.index(i, 4), first.err)
				}
			}
		}
	}
}

// A definition is checked as a whole before the next one, but for its sample, which is checked behind the prices and the automaton.
func TestTwoFaultsOfTwoDefinitions(t *testing.T) { // P11.1
	for _, early := range faults() {
		for _, late := range faults() {
			for _, x := range [][2]int{{1, 2}, {2, 3}, {1, 3}} {
				spec := fourKeywords()
				late.make(&spec, x[1])
				early.make(&spec, x[0])
				first, i := early, x[0]
				if late.step < early.step {
					first, i = late, x[1]
				}
				check(t, spec, first.index(i, 4), first.err)
			}
		}
	}
}

func TestManySpecifications(t *testing.T) { // P11.1
	random := rand.New(rand.NewSource(2))
	outcomes := map[api.Errno]int{}
	for range 6000 {
		spec := randomSpec(random)
		index, want := model(t, spec)
		check(t, spec, index, want)
		outcomes[want]++
	}
	for _, err := range []api.Errno{api.OK, api.ErrName, api.ErrDuplicate, api.ErrArg, api.ErrSyntax, api.ErrEmpty, api.ErrMismatch, api.ErrConflict} {
		if outcomes[err] < 20 {
			t.Errorf("error %d: only %d specifications", err, outcomes[err])
		}
	}
}

// All patterns of up to three letters, stars and bars as keywords.
func TestSmallKeywords(t *testing.T) { // P11.1
	valid, conflicts := 0, 0
	for _, pattern := range allStrings("ab*|?", 4) {
		for _, sample := range []string{"a", "b", "ab", "aa", "aab"} {
			spec := of(keyword("key", pattern, sample))
			index, want := model(t, spec)
			check(t, spec, index, want)
			switch want {
			case api.OK:
				valid++
			case api.ErrConflict:
				conflicts++
			}
		}
	}
	if valid < 5 || conflicts < 50 {
		t.Errorf("only %d valid keywords and %d conflicts", valid, conflicts)
	}
}

func TestCheckAgreesWithLayers(t *testing.T) { // P11.1
	eachValidSpec(t, func(spec api.LexSpec) {
		n, err := nfa.FromRegexes(parseAll(t, spec))
		if err != api.OK {
			t.Fatalf("P11.1: %s: FromRegexes: error %d", show(spec), err)
		}
		d, err := dfa.Determinize(n)
		if err != api.OK {
			t.Fatalf("P11.1: %s: Determinize: error %d", show(spec), err)
		}
		for i, def := range spec.Defs {
			if kind := dfa.Run(d, def.Sample); kind != i {
				t.Errorf("P11.1: %s: the kind of sample %d is %d", show(spec), i, kind)
			}
		}
		check(t, spec, 0, api.OK)
	})
}
