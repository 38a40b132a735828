package relex_test

import (
	"math"
	"math/rand"
	"slices"
	"strings"
	"testing"

	"emendate/api"
	"emendate/lexer"
	"emendate/relex"
)

// An example is an edit of a text whose tokens are separated by |, the tokens afterwards, and the change.
type example struct {
	old    string
	e      api.Edit
	want   string
	change api.Change
}

func checkExamples(t *testing.T, d api.DFA, l []example) {
	t.Helper()
	for _, x := range l {
		s := strings.ReplaceAll(x.old, "|", "")
		old := lexer.Lex(d, s)
		if strings.Join(texts(old), "|") != x.old {
			t.Errorf("%q has the tokens %q", x.old, texts(old))
		}
		got, change, err := relex.Update(d, old, x.e)
		if err != api.OK || change != x.change || strings.Join(texts(got), "|") != x.want {
			t.Errorf("P13.1: %q, %+v: %q, %+v, %d, want %q, %+v", x.old, x.e, texts(got), change, err, x.want, x.change)
		}
		checkUpdate(t, d, s, x.e)
	}
}

func TestUpdateOfTheChapter(t *testing.T) { // P13.1
	d := words(t)
	old := []api.Token{{Kind: 0, At: 0, Text: "ab", Look: 3}, {Kind: 1, At: 2, Text: " ", Look: 2}, {Kind: 0, At: 3, Text: "cd", Look: 3}, {Kind: 1, At: 5, Text: " ", Look: 2}, {Kind: 0, At: 6, Text: "ef", Look: 3}}
	want := []api.Token{{Kind: 0, At: 0, Text: "ab", Look: 3}, {Kind: 1, At: 2, Text: " ", Look: 2}, {Kind: 0, At: 3, Text: "cde", Look: 4}, {Kind: 1, At: 6, Text: " ", Look: 2}, {Kind: 0, At: 7, Text: "ef", Look: 3}}
	got, change, err := relex.Update(d, old, api.Edit{At: 4, Del: 1, Ins: "de"})
	if !slices.Equal(got, want) || (change != api.Change{From: 2, Old: 1, New: 1}) || err != api.OK {
		t.Errorf("P13.1: %+v, %+v, %d", got, change, err)
	}
}

func TestUpdateByPlace(t *testing.T) { // P13.1
	checkExamples(t, words(t), []example{
		// The start of the text.
		{"ab| |cd", api.Edit{Ins: "x"}, "xab| |cd", api.Change{From: 0, Old: 1, New: 1}},
		{"ab| |cd", api.Edit{Ins: "x "}, "x| |ab| |cd", api.Change{From: 0, Old: 0, New: 2}},
		{"ab| |cd", api.Edit{Ins: " "}, " |ab| |cd", api.Change{From: 0, Old: 0, New: 1}},
		{"ab| |cd", api.Edit{Del: 1}, "b| |cd", api.Change{From: 0, Old: 1, New: 1}},
		{"ab| |cd", api.Edit{Del: 2}, " |cd", api.Change{From: 0, Old: 1, New: 0}},
		{"ab| |cd", api.Edit{Del: 2, Ins: "xyz"}, "xyz| |cd", api.Change{From: 0, Old: 1, New: 1}},
		// The middle of a token.
		{"ab| |cde| |f", api.Edit{At: 4, Ins: "x"}, "ab| |cxde| |f", api.Change{From: 2, Old: 1, New: 1}},
		{"ab| |cde| |f", api.Edit{At: 4, Ins: " "}, "ab| |c| |de| |f", api.Change{From: 2, Old: 1, New: 3}},
		{"ab| |cde| |f", api.Edit{At: 4, Del: 1}, "ab| |ce| |f", api.Change{From: 2, Old: 1, New: 1}},
		{"ab| |cde| |f", api.Edit{At: 4, Del: 1, Ins: " x "}, "ab| |c| |x| |e| |f", api.Change{From: 2, Old: 1, New: 5}},
		// A boundary between tokens: the blank was determined without the byte behind it, the word was not.
		{"ab| |cd| |ef", api.Edit{At: 3, Ins: "x"}, "ab| |xcd| |ef", api.Change{From: 1, Old: 2, New: 2}},
		{"ab| |cd| |ef", api.Edit{At: 2, Ins: "x"}, "abx| |cd| |ef", api.Change{From: 0, Old: 1, New: 1}},
		{"ab| |cd| |ef", api.Edit{At: 2, Ins: " "}, "ab| | |cd| |ef", api.Change{From: 0, Old: 1, New: 2}},
		{"ab| |cd| |ef", api.Edit{At: 5, Del: 1}, "ab| |cdef", api.Change{From: 2, Old: 3, New: 1}},
		{"ab| |cd| |ef", api.Edit{At: 2, Del: 1}, "abcd| |ef", api.Change{From: 0, Old: 3, New: 1}},
		{"?|?|?", api.Edit{At: 1, Ins: "!"}, "?|!|?|?", api.Change{From: 1, Old: 0, New: 1}},
		{"?|?|?", api.Edit{At: 1, Del: 1}, "?|?", api.Change{From: 1, Old: 1, New: 0}},
		// The end of the text.
		{"ab| |cd", api.Edit{At: 5, Ins: "x"}, "ab| |cdx", api.Change{From: 2, Old: 1, New: 1}},
		{"ab| |cd", api.Edit{At: 5, Ins: " "}, "ab| |cd| ", api.Change{From: 2, Old: 1, New: 2}},
		{"ab| |cd", api.Edit{At: 4, Del: 1}, "ab| |c", api.Change{From: 2, Old: 1, New: 1}},
		{"ab| |cd", api.Edit{At: 3, Del: 2}, "ab| ", api.Change{From: 1, Old: 2, New: 1}},
		{"ab| |cd| ", api.Edit{At: 5, Del: 1, Ins: "efg"}, "ab| |cdefg", api.Change{From: 2, Old: 2, New: 1}},
		{"ab|?", api.Edit{At: 3, Ins: "c"}, "ab|?|c", api.Change{From: 2, Old: 0, New: 1}},
		{"ab|?|?", api.Edit{At: 3, Del: 1}, "ab|?", api.Change{From: 2, Old: 1, New: 0}},
		// The whole text.
		{"ab| |cd", api.Edit{Del: 5, Ins: "x"}, "x", api.Change{From: 0, Old: 3, New: 1}},
		{"ab| |cd", api.Edit{Del: 5, Ins: "x y z"}, "x| |y| |z", api.Change{From: 0, Old: 3, New: 5}},
		{"ab| |cd", api.Edit{Del: 5, Ins: "ab cd"}, "ab| |cd", api.Change{From: 0, Old: 3, New: 3}},
	})
}

func TestUpdateBySize(t *testing.T) { // P13.1
	checkExamples(t, words(t), []example{
		{"ab| |cd| |ef", api.Edit{At: 3, Del: 2, Ins: "xyz"}, "ab| |xyz| |ef", api.Change{From: 1, Old: 2, New: 2}},
		{"ab| |cd| |ef", api.Edit{At: 3, Del: 2, Ins: "x"}, "ab| |x| |ef", api.Change{From: 1, Old: 2, New: 2}},
		{"ab| |cd| |ef", api.Edit{At: 3, Del: 2, Ins: "xy"}, "ab| |xy| |ef", api.Change{From: 1, Old: 2, New: 2}},
		{"ab| |cd| |ef", api.Edit{At: 1, Del: 6, Ins: "x"}, "axf", api.Change{From: 0, Old: 5, New: 1}},
		{"ab| |cd| |ef", api.Edit{At: 1, Del: 6}, "af", api.Change{From: 0, Old: 5, New: 1}},
		{"ab| |cd| |ef", api.Edit{At: 1, Del: 4}, "a| |ef", api.Change{From: 0, Old: 3, New: 1}},
		{"ab| |cd| |ef", api.Edit{At: 4, Ins: " xyz xyz xyz "}, "ab| |c| |xyz| |xyz| |xyz| |d| |ef", api.Change{From: 2, Old: 1, New: 9}},
		{"ab| |cd| |ef", api.Edit{At: 4, Del: 1, Ins: strings.Repeat(" ", 4)}, "ab| |c| | | | | |ef", api.Change{From: 2, Old: 1, New: 5}},
	})
}

func TestUpdateOfAndToTheEmptyText(t *testing.T) { // P13.1
	d := words(t)
	checkExamples(t, d, []example{
		{"", api.Edit{}, "", api.Change{}},
		{"", api.Edit{Ins: "a"}, "a", api.Change{From: 0, Old: 0, New: 1}},
		{"", api.Edit{Ins: "a ?"}, "a| |?", api.Change{From: 0, Old: 0, New: 3}},
		{"a", api.Edit{Del: 1}, "", api.Change{From: 0, Old: 1, New: 0}},
		{"a| |?", api.Edit{Del: 3}, "", api.Change{From: 0, Old: 3, New: 0}},
	})
	for _, old := range [][]api.Token{nil, {}, make([]api.Token, 0, 5)} {
		got, change, err := relex.Update(d, old, api.Edit{Ins: "a"})
		if !slices.Equal(got, []api.Token{{Kind: 0, At: 0, Text: "a", Look: 2}}) || (change != api.Change{New: 1}) || err != api.OK {
			t.Errorf("P13.1: %+v, %+v, %d", got, change, err)
		}
	}
}

// A parenthesis that is not closed reads up to the end, and the tokens behind it do not.
func TestPrefixEndsAtTheFirstThatLooksBeyond(t *testing.T) { // P13.1
	checkExamples(t, words(t), []example{
		{"a|(|b| |c", api.Edit{At: 5, Ins: ")"}, "a|(b c)", api.Change{From: 1, Old: 4, New: 1}},
		{"a| |(|b| |c", api.Edit{At: 6, Ins: ")"}, "a| |(b c)", api.Change{From: 2, Old: 4, New: 1}},
		{"a| |(|b| |c", api.Edit{At: 4, Ins: ")"}, "a| |(b)| |c", api.Change{From: 2, Old: 2, New: 1}},
		{"a| |(|b| |c| |d", api.Edit{At: 5, Del: 2, Ins: ")"}, "a| |(b )|d", api.Change{From: 2, Old: 5, New: 1}},
		// The tokens behind the parenthesis are scanned again, although they were determined without the edited part.
		{"(|b| |c", api.Edit{At: 4, Ins: "x"}, "(|b| |cx", api.Change{From: 0, Old: 4, New: 4}},
		{"(|b| |c| |d", api.Edit{At: 3, Del: 1, Ins: "e"}, "(|b| |e| |d", api.Change{From: 0, Old: 4, New: 4}},
		{"(|b| |c| |d", api.Edit{At: 6, Ins: " "}, "(|b| |c| |d| ", api.Change{From: 0, Old: 6, New: 7}},
		{"a| |(|b| |c", api.Edit{At: 5}, "a| |(|b| |c", api.Change{From: 2, Old: 3, New: 3}},
		// A parenthesis that is closed looks no farther than its end.
		{"(b)|c", api.Edit{At: 3, Ins: "x"}, "(b)|xc", api.Change{From: 0, Old: 2, New: 2}},
		{"(b)|c|?", api.Edit{At: 4, Ins: " "}, "(b)|c| |?", api.Change{From: 1, Old: 1, New: 2}},
		{"(b c)| |d", api.Edit{At: 4, Del: 1}, "(|b| |c| |d", api.Change{From: 0, Old: 1, New: 4}},
	})
	d := compile(t, "a", "abcd", "abcdefgh", "b", "c")
	checkExamples(t, d, []example{
		{"a|b|c|x", api.Edit{At: 3, Del: 1, Ins: "d"}, "abcd", api.Change{From: 0, Old: 4, New: 1}},
		{"a|b|c|x", api.Edit{At: 3, Del: 1, Ins: "a"}, "a|b|c|a", api.Change{From: 0, Old: 4, New: 4}},
		{"a|b|c|x", api.Edit{At: 4, Ins: "d"}, "a|b|c|x|d", api.Change{From: 4, Old: 0, New: 1}},
		{"a|b|c", api.Edit{At: 3, Ins: "d"}, "abcd", api.Change{From: 0, Old: 3, New: 1}},
		{"abcd|e|f|g|c", api.Edit{At: 7, Del: 1, Ins: "h"}, "abcdefgh", api.Change{From: 0, Old: 5, New: 1}},
		{"abcd|e|f|g|c", api.Edit{At: 8, Ins: "h"}, "abcd|e|f|g|c|h", api.Change{From: 4, Old: 1, New: 2}},
		{"abcd|e|f|g|c|c", api.Edit{At: 8, Ins: "h"}, "abcd|e|f|g|c|h|c", api.Change{From: 4, Old: 1, New: 2}},
		{"abcdefgh|a", api.Edit{At: 8, Ins: "b"}, "abcdefgh|b|a", api.Change{From: 0, Old: 1, New: 2}},
		{"abcdefgh|a|x", api.Edit{At: 9, Ins: "b"}, "abcdefgh|a|b|x", api.Change{From: 1, Old: 1, New: 2}},
	})
}

func TestScanMeetsTheOldTokens(t *testing.T) { // P13.1
	checkExamples(t, words(t), []example{
		// At once: nothing is scanned.
		{"?|!|?", api.Edit{At: 1, Del: 1}, "?|?", api.Change{From: 1, Old: 1, New: 0}},
		{"?|ab|?", api.Edit{At: 1, Del: 2}, "?|?", api.Change{From: 1, Old: 1, New: 0}},
		{"?|ab|?", api.Edit{At: 1}, "?|ab|?", api.Change{From: 1, Old: 0, New: 0}},
		{"?|ab|?", api.Edit{At: 1, Del: 3}, "?", api.Change{From: 1, Old: 2, New: 0}},
		{"?|ab|?", api.Edit{At: 1, Del: 1}, "?|b|?", api.Change{From: 1, Old: 1, New: 1}},
		// After some tokens.
		{"(a b)| |c| |d", api.Edit{Del: 1}, "a| |b|)| |c| |d", api.Change{From: 0, Old: 1, New: 4}},
		{"(a b)| |c| |d", api.Edit{At: 1, Ins: "x)y"}, "(x)|ya| |b|)| |c| |d", api.Change{From: 0, Old: 1, New: 5}},
		{"a|)| |c|)| |d", api.Edit{Ins: "("}, "(a)| |c|)| |d", api.Change{From: 0, Old: 2, New: 1}},
		{"a| |c|)| |d", api.Edit{At: 1, Ins: "("}, "a|( c)| |d", api.Change{From: 0, Old: 4, New: 2}},
		// Only at the end.
		{"a| |c| |d", api.Edit{At: 5, Del: 0, Ins: "("}, "a| |c| |d|(", api.Change{From: 4, Old: 1, New: 2}},
		{"a| |c| |d|)", api.Edit{At: 1, Ins: "("}, "a|( c d)", api.Change{From: 0, Old: 6, New: 2}},
		{"(ab cd ef)", api.Edit{At: 9, Del: 1}, "(|ab| |cd| |ef", api.Change{From: 0, Old: 1, New: 6}},
		{"(ab cd ef)", api.Edit{Del: 1}, "ab| |cd| |ef|)", api.Change{From: 0, Old: 1, New: 6}},
		{"ab| |cd", api.Edit{At: 2, Del: 1}, "abcd", api.Change{From: 0, Old: 3, New: 1}},
	})
	// Behind a deletion in a run all pairs start elsewhere, up to the end of the run.
	checkExamples(t, compile(t, "aa", "b"), []example{
		{"aa|aa|aa|a", api.Edit{Del: 1}, "aa|aa|aa", api.Change{From: 0, Old: 4, New: 3}},
		{"aa|aa|aa|a|b|aa", api.Edit{At: 2, Del: 1}, "aa|aa|aa|b|aa", api.Change{From: 0, Old: 4, New: 3}},
		{"aa|aa|b|aa", api.Edit{At: 2, Del: 1}, "aa|a|b|aa", api.Change{From: 0, Old: 2, New: 2}},
		{"aa|aa|aa|aa", api.Edit{At: 1, Del: 2}, "aa|aa|aa", api.Change{From: 0, Old: 2, New: 1}},
		{"aa|aa|aa|aa", api.Edit{At: 3, Ins: "b"}, "aa|a|b|aa|aa|a", api.Change{From: 1, Old: 3, New: 5}},
	})
}

// In each of these cases some new token starts before the end of the insertion where, shifted, an old one starts in the deleted part or before it.
func TestStartsInTheDeletedPartDoNotCount(t *testing.T) { // P13.1
	d := words(t)
	checkExamples(t, d, []example{
		{"a| |b| |c", api.Edit{Del: 3, Ins: "x yz"}, "x| |yz| |c", api.Change{From: 0, Old: 3, New: 3}},
		{"a| |b| |c", api.Edit{Del: 3, Ins: "x y"}, "x| |y| |c", api.Change{From: 0, Old: 3, New: 3}},
		{"a| |b| |c", api.Edit{Del: 4, Ins: "x y"}, "x| |yc", api.Change{From: 0, Old: 5, New: 3}},
		{"?|a| |b| |c", api.Edit{At: 1, Del: 3, Ins: "? b"}, "?|?| |b| |c", api.Change{From: 1, Old: 3, New: 3}},
		{"?|?|?|?", api.Edit{At: 1, Del: 2, Ins: "!!"}, "?|!|!|?", api.Change{From: 1, Old: 2, New: 2}},
		{"?|?|?|?", api.Edit{At: 1, Del: 2, Ins: "!!!"}, "?|!|!|!|?", api.Change{From: 1, Old: 2, New: 3}},
		{"?|?|?|?", api.Edit{At: 1, Del: 2, Ins: "!"}, "?|!|?", api.Change{From: 1, Old: 2, New: 1}},
		{"?|?|?|?", api.Edit{At: 2, Del: 1, Ins: "??"}, "?|?|?|?|?", api.Change{From: 2, Old: 1, New: 2}},
		{"a| |b| |c", api.Edit{At: 1, Del: 3, Ins: " b "}, "a| |b| |c", api.Change{From: 0, Old: 4, New: 4}},
	})
}

func TestErrorTokens(t *testing.T) { // P13.1
	checkExamples(t, words(t), []example{
		{"?|ab|\x00|\xff", api.Edit{At: 3, Del: 1}, "?|ab|\xff", api.Change{From: 1, Old: 2, New: 1}},
		{"?|ab|\x00|\xff", api.Edit{At: 4, Del: 1, Ins: "c"}, "?|ab|\x00|c", api.Change{From: 3, Old: 1, New: 1}},
		{"ab", api.Edit{At: 1, Ins: "\xff\x00"}, "a|\xff|\x00|b", api.Change{From: 0, Old: 1, New: 4}},
		{"a|?|b", api.Edit{At: 1, Del: 1}, "ab", api.Change{From: 0, Old: 3, New: 1}},
		// The two bytes of a letter beyond ASCII are two tokens, and an edit may lie between them.
		{"a|\xc3|\xa9|b", api.Edit{At: 2, Ins: "\xc3"}, "a|\xc3|\xc3|\xa9|b", api.Change{From: 2, Old: 0, New: 1}},
	})
	// Error tokens that look far, and those that look at their own byte only.
	d := compile(t, "abcd")
	checkExamples(t, d, []example{
		{"a|b|c|x", api.Edit{At: 3, Del: 1, Ins: "d"}, "abcd", api.Change{From: 0, Old: 4, New: 1}},
		{"x|a|b|c", api.Edit{At: 4, Ins: "d"}, "x|abcd", api.Change{From: 1, Old: 3, New: 1}},
		{"x|b|c|d", api.Edit{At: 1, Ins: "a"}, "x|abcd", api.Change{From: 1, Old: 3, New: 1}},
		{"x|b|c|d", api.Edit{Del: 1, Ins: "a"}, "abcd", api.Change{From: 0, Old: 4, New: 1}},
		{"abcd|abcd", api.Edit{At: 2, Ins: "x"}, "a|b|x|c|d|abcd", api.Change{From: 0, Old: 1, New: 5}},
	})
}

// Letters beyond ASCII are several bytes, each of which is read.
func TestBytesOfLetters(t *testing.T) { // P13.1
	d := api.DFA{Class: classes("\xc3", "\xa9"), Next: [][]int{{-1, 1, -1}, {-1, -1, 2}, {-1, 1, -1}}, Accept: []int{-1, -1, 0}}
	checkExamples(t, d, []example{
		{"éé|x|é", api.Edit{At: 4, Del: 1, Ins: "é"}, "éééé", api.Change{From: 0, Old: 3, New: 1}},
		{"éé|x|é", api.Edit{At: 3, Del: 1}, "é|\xc3|x|é", api.Change{From: 0, Old: 1, New: 2}},
		{"éé|x|é", api.Edit{At: 5, Del: 1}, "éé|x|\xa9", api.Change{From: 2, Old: 1, New: 1}},
	})
	for _, e := range ranges("ééxéè", "", "é", "\xc3", "\xa9", "x") {
		checkUpdate(t, d, "ééxéè", e)
	}
}

// The kinds of layout tokens are numbers beyond those of the definitions, like any others that an automaton accepts.
func TestLayoutTokens(t *testing.T) { // P13.1
	d := compile(t, "[a-z]+", " ", "\\n", ">", "<")
	checkExamples(t, d, []example{
		{"a|\n|>|b|\n|<|c", api.Edit{At: 4, Ins: ">"}, "a|\n|>|b|>|\n|<|c", api.Change{From: 3, Old: 1, New: 2}},
		{"a|\n|>|b|\n|<|c", api.Edit{At: 2, Del: 1}, "a|\n|b|\n|<|c", api.Change{From: 1, Old: 2, New: 1}},
		{"a|\n|>|b|\n|<|c", api.Edit{At: 4, Del: 2}, "a|\n|>|bc", api.Change{From: 3, Old: 4, New: 1}},
		{"a|\n|>|b|\n|<|c", api.Edit{At: 1, Ins: " \n"}, "a| |\n|\n|>|b|\n|<|c", api.Change{From: 0, Old: 1, New: 3}},
	})
	checkExamples(t, language(t), []example{
		{"while|\n  |x|\n|y", api.Edit{At: 6, Del: 2}, "while|\n|x|\n|y", api.Change{From: 1, Old: 1, New: 1}},
		{"while|\n  |x|\n|y", api.Edit{At: 10, Ins: "  "}, "while|\n  |x|\n  |y", api.Change{From: 3, Old: 1, New: 1}},
		{"while|\n  |x|\n|y", api.Edit{At: 4, Del: 4, Ins: "\n "}, "whil|\n |x|\n|y", api.Change{From: 0, Old: 2, New: 2}},
	})
	for _, number := range []int{0, 1, 39, 40, 41, 42, 43, 1 << 40, math.MaxInt} { // 42 is the greatest kind of a layout token
		d := api.DFA{Class: classes("a", "b"), Next: [][]int{{-1, 1, 2}, {-1, 1, -1}, {-1, -1, -1}}, Accept: []int{-1, number, math.MaxInt - number}}
		for _, e := range ranges("aabca", "", "a", "bb") {
			checkUpdate(t, d, "aabca", e)
		}
	}
}

func TestUpdateRefusesWhatDoesNotFit(t *testing.T) { // P13.1
	d := words(t)
	for _, s := range []string{"", "a", "ab cd", "(ab"} {
		n := len(s)
		for _, e := range []api.Edit{
			{At: -1}, {At: -1, Del: 1}, {At: -1, Del: n + 1}, {At: -n - 1, Ins: "x"}, {At: math.MinInt}, {At: math.MinInt, Del: math.MaxInt},
			{Del: -1}, {At: n, Del: -1}, {At: n, Del: -n - 1}, {Del: math.MinInt}, {At: math.MinInt, Del: math.MinInt}, {At: n + 1, Del: -1}, {At: math.MaxInt, Del: -math.MaxInt},
			{At: n + 1}, {At: n + 1, Ins: "x"}, {At: math.MaxInt}, {At: math.MaxInt, Ins: "x"},
			{Del: n + 1}, {At: n, Del: 1}, {At: n, Del: 1, Ins: "xy"}, {Del: n + 1, Ins: "x"}, {Del: math.MaxInt},
			{At: 1, Del: math.MaxInt}, {At: math.MaxInt, Del: 1}, {At: math.MaxInt, Del: math.MaxInt}, {At: n, Del: math.MaxInt, Ins: "x"}, {At: math.MaxInt, Del: math.MinInt},
		} {
			if got, change, err := relex.Update(d, lexer.Lex(d, s), e); err != api.ErrRange || len(got) != 0 || (change != api.Change{}) {
				t.Errorf("P13.1: %q, %+v: %+v, %+v, %d", s, e, got, change, err)
			}
		}
	}
}

func TestUpdateOfAllSmallAutomata(t *testing.T) { // P13.1
	texts := allStrings("ab", 4)
	for i, d := range smallAutomata() {
		for k, s := range texts {
			for n, e := range ranges(s, "", "a", "b", "ab", "ba", "aa") {
				if len(s) < 4 || (i+k+n)%7 == 0 {
					checkUpdate(t, d, s, e)
				}
			}
		}
	}
}

func TestUpdateOfManyTexts(t *testing.T) { // P13.1
	eachEdit(t, func(d api.DFA, s string, e api.Edit) { checkUpdate(t, d, s, e) })
	d := words(t)
	for _, s := range []string{"ab (c) d", "((a b) c", "?a (", ") ()"} {
		for _, e := range ranges(s, "", "a", " ", "(", ")", "a b", "?") {
			checkUpdate(t, d, s, e)
		}
	}
}

// The random edits above are of all sorts.
func TestManyTextsHaveManyChanges(t *testing.T) { // P13.1
	changes, kinds := map[api.Change]bool{}, map[string]int{}
	eachEdit(t, func(d api.DFA, s string, e api.Edit) {
		old := lexer.Lex(d, s)
		_, c := model(d, old, e)
		changes[c] = true
		later := slices.ContainsFunc(old[c.From:], func(token api.Token) bool { return token.At+token.Look <= e.At })
		for kind, is := range map[string]bool{
			"no prefix": c.From == 0, "prefix": c.From > 0, "nothing new": c.New == 0, "nothing old": c.Old == 0, "at the end only": c.From+c.Old == len(old), "suffix": c.From+c.Old < len(old),
			"fewer": c.New < c.Old, "more": c.New > c.Old, "a later token does not look beyond": later, "insertion": e.Del == 0 && e.Ins != "", "deletion": e.Del > 0 && e.Ins == "",
		} {
			if is {
				kinds[kind]++
			}
		}
	})
	for kind, n := range kinds {
		if n < 500 {
			t.Errorf("P13.1: %s: only %d edits", kind, n)
		}
	}
	if len(kinds) != 11 || len(changes) < 300 {
		t.Errorf("P13.1: %d kinds of edits, %d changes", len(kinds), len(changes))
	}
}

func TestUpdateOfLongTexts(t *testing.T) { // P13.1
	d := words(t)
	s := strings.Repeat("ab cd ", 20000)
	old := lexer.Lex(d, s)
	for _, x := range []struct {
		e      api.Edit
		change api.Change
	}{
		{api.Edit{At: 60000, Ins: "x"}, api.Change{From: 39999, Old: 2, New: 2}},
		{api.Edit{At: 60001, Del: 1, Ins: "x"}, api.Change{From: 40000, Old: 1, New: 1}},
		{api.Edit{Ins: "?"}, api.Change{From: 0, Old: 0, New: 1}},
		{api.Edit{At: len(s), Ins: "?"}, api.Change{From: 79999, Old: 1, New: 2}},
		{api.Edit{At: 1, Del: len(s) - 3}, api.Change{From: 0, Old: 79999, New: 1}},
		{api.Edit{At: 30000, Del: 60000}, api.Change{From: 19999, Old: 40001, New: 1}},
	} {
		got, change, err := relex.Update(d, old, x.e)
		if err != api.OK || change != x.change || !slices.Equal(got, lexer.Lex(d, edited(s, x.e))) {
			t.Errorf("P13.1: %+v: %d tokens, %+v, %d, want %+v", x.e, len(got), change, err, x.change)
		}
	}
}

// filled returns l with spare capacity, and what it is filled with.
func filled(l []api.Token) ([]api.Token, api.Token) {
	mark := api.Token{Kind: 7, At: 7, Text: "mark", Look: 7}
	longer := slices.Grow(slices.Clone(l), 20)
	for i := len(l); i < cap(longer); i++ {
		longer[:cap(longer)][i] = mark
	}
	return longer, mark
}

func TestArgumentsAreUnchanged(t *testing.T) { // P13.1
	random := rand.New(rand.NewSource(4))
	d := words(t)
	before := copyOf(d)
	for _, e := range append(ranges("(ab) c", "", "x", " ) ", "abcdefghijkl"), api.Edit{At: 9}, api.Edit{Del: -1}) {
		old, mark := filled(lexer.Lex(d, "(ab) c"))
		got, _, _ := relex.Update(d, old, e)
		for i := range got[:cap(got)] {
			got[:cap(got)][i] = api.Token{Kind: random.Intn(9), At: -1, Text: "changed", Look: -1}
		}
		if !slices.Equal(old, lexer.Lex(d, "(ab) c")) || slices.ContainsFunc(old[len(old):cap(old)], func(token api.Token) bool { return token != mark }) {
			t.Errorf("P13.1: %+v: the old tokens are changed or shared: %+v", e, old[:cap(old)])
		}
	}
	if !equalAutomata(d, before) {
		t.Error("P13.1: the automaton is changed")
	}
}

func TestResultsAreIndependent(t *testing.T) { // P13.1
	d := words(t)
	old := lexer.Lex(d, "ab (cd) ef")
	for _, e := range ranges("ab (cd) ef", "", "x") {
		first, change, _ := relex.Update(d, old, e)
		want := slices.Clone(first)
		relex.Update(language(t), lexer.Lex(language(t), "while x"), api.Edit{At: 3, Del: 1})
		second, again, _ := relex.Update(d, old, e)
		if change != again || !slices.Equal(second, want) {
			t.Errorf("P13.1: %+v: %+v, %+v, and later %+v, %+v", e, want, change, second, again)
		}
		for i := range second[:cap(second)] {
			second[:cap(second)][i] = api.Token{}
		}
		if !slices.Equal(first, want) {
			t.Errorf("P13.1: %+v: two results share memory", e)
		}
	}
}

// What Update does with other automata and lists is unspecified. It returns an error for the automata, and it does not panic.
func TestOtherArguments(t *testing.T) { // P13.1
	for i, d := range []api.DFA{
		{},
		{Class: make([]int, 256)},
		{Class: make([]int, 255), Next: [][]int{{0}}, Accept: []int{0}},
		{Class: make([]int, 256), Next: [][]int{nil}, Accept: []int{0}},
		{Class: make([]int, 256), Next: [][]int{{0}}},
		{Class: make([]int, 256), Next: [][]int{{1}}, Accept: []int{0}},
		{Class: make([]int, 256), Next: [][]int{{-2}}, Accept: []int{0}},
		{Class: slices.Repeat([]int{1}, 256), Next: [][]int{{0}}, Accept: []int{0}},
	} {
		for e, want := range map[api.Edit]api.Errno{{}: api.ErrArg, {Ins: "a"}: api.ErrArg, {Del: 1}: api.ErrArg, {At: 1, Ins: "b"}: api.ErrArg, {At: -1}: api.ErrRange, {Del: 2}: api.ErrRange} {
			old := []api.Token{{Text: "a", Look: 2}}
			if got, change, err := relex.Update(d, old, e); err != want || len(got) != 0 || (change != api.Change{}) {
				t.Errorf("P13.1: invalid automaton %d, %+v: %+v, %+v, %d", i, e, got, change, err)
			}
		}
	}
	random := rand.New(rand.NewSource(8))
	numbers := []int{-1, 0, 1, 2, 3, 4, 5, math.MaxInt, math.MinInt}
	d := words(t)
	for range 20000 {
		var old []api.Token
		for range random.Intn(5) {
			old = append(old, api.Token{Kind: random.Intn(3), At: numbers[random.Intn(9)], Text: randomText(random, 3), Look: numbers[random.Intn(9)]})
		}
		s := text(old)
		relex.Update(d, old, randomEdit(random, s, randomText(random, 4)))
	}
}
