package textdiff_test

import (
	"fmt"
	"slices"
	"strings"
	"testing"

	"emendate/api"
	"emendate/textdiff"
)

// short describes edits whose texts may be long.
func short(edits ...api.Edit) string {
	var l []string
	for _, e := range edits {
		l = append(l, fmt.Sprintf("{%d %d %.40q}", e.At, e.Del, e.Ins))
	}
	return fmt.Sprintf("%.300s", l)
}

func checkDistance(t *testing.T, a, b string, want int) {
	t.Helper()
	if got := textdiff.Distance(a, b); got != want {
		t.Errorf("P6.1: Distance(%.40q, %.40q): %d, want %d", a, b, got, want)
	}
}

func checkDiff(t *testing.T, what, a, b string, want []api.Edit) {
	t.Helper()
	if got := textdiff.Diff(a, b); !slices.Equal(got, want) {
		t.Errorf("P6.2: %s: Diff(%.40q, %.40q): %s, want %s", what, a, b, short(got...), short(want...))
	}
}

func checkHull(t *testing.T, what, a, b string, want api.Edit) {
	t.Helper()
	if got := textdiff.Hull(a, b); got != want {
		t.Errorf("P6.3: %s: Hull(%.40q, %.40q): %s, want %s", what, a, b, short(got), short(want))
	}
}

func TestDistance(t *testing.T) { // P6.1
	for _, c := range []struct {
		a, b string
		want int
	}{
		{"", "", 0},
		{"", "x", 1},
		{"x", "", 1},
		{"", "abc", 3},
		{"abc", "", 3},
		{"a", "a", 0},
		{"abc", "abc", 0},
		{"a", "b", 2}, // replacing is no operation
		{"abc", "xyz", 6},
		{"abc", "wxyz", 7},
		{"aaa", "aaaaa", 2},
		{"aaaaa", "aaa", 2},
		{"aaaa", "a", 3},
		{"aaaa", "bb", 6},
		{"kitten", "sitting", 5},
		{"sitting", "kitten", 5},
		{"abcd", "axcd", 2},
		{"ab", "ba", 2}, // exchanging is none either
		{"abcabba", "cbabac", 5},
		{"abcdef", "fedcba", 10},
		{"abc", "aXbYc", 2},
		{"abcxyz", "xyzabc", 6},
		{"Ab", "ab", 2},
		{"\x00", "", 1},
		{"a\x00b", "ab", 1},
		{"\xff\xfe\x80", "\xfe\x80\x7f", 2},
		{"\xff", "\x7f", 2},
		{"\x80\x81\x82", "\x00\x01\x02", 6},
		{"é", "è", 2}, // bytes are compared, of which the first ones are equal
		{"é", "e", 3},
		{"\ufffd", "\xff", 4},
	} {
		checkDistance(t, c.a, c.b, c.want)
	}
}

func TestDistanceOfOneRepeatedByte(t *testing.T) { // P6.1
	for n := range 40 {
		for m := range 40 {
			checkDistance(t, strings.Repeat("a", n), strings.Repeat("a", m), max(n, m)-min(n, m))
			checkDistance(t, strings.Repeat("a", n), strings.Repeat("b", m), n+m)
		}
	}
}

// Each byte matches itself and no other one.
func TestDistanceOfSingleBytes(t *testing.T) { // P6.1
	for x := range 256 {
		for y := range 256 {
			want := 2
			if x == y {
				want = 0
			}
			checkDistance(t, string([]byte{byte(x)}), string([]byte{byte(y)}), want)
		}
	}
}

func TestDiff(t *testing.T) { // P6.2
	for _, c := range []struct {
		what, a, b string
		want       []api.Edit
	}{
		{"two empty strings", "", "", nil},
		{"equal", "a", "a", nil},
		{"equal", "abcabc", "abcabc", nil},
		{"equal", "\x00\xff\xc3", "\x00\xff\xc3", nil},

		{"a exhausted at once", "", "xyz", []api.Edit{{Ins: "xyz"}}},
		{"b exhausted at once", "xyz", "", []api.Edit{{Del: 3}}},
		{"a exhausted", "ab", "abcd", []api.Edit{{At: 2, Ins: "cd"}}},
		{"b exhausted", "abcd", "ab", []api.Edit{{At: 2, Del: 2}}},
		{"a exhausted in a run", "abc", "aXYZ", []api.Edit{{At: 1, Del: 2, Ins: "XYZ"}}},
		{"both exhausted in a run", "bac", "ab", []api.Edit{{Del: 1}, {At: 2, Del: 1, Ins: "b"}}},

		{"an insertion at the start", "abc", "xyabc", []api.Edit{{Ins: "xy"}}},
		{"a deletion at the start", "xyabc", "abc", []api.Edit{{Del: 2}}},
		{"a replacement at the start", "xyabc", "zabc", []api.Edit{{Del: 2, Ins: "z"}}},
		{"an insertion in the middle", "abc", "abxyc", []api.Edit{{At: 2, Ins: "xy"}}},
		{"a deletion in the middle", "abxyc", "abc", []api.Edit{{At: 2, Del: 2}}},
		{"a replacement in the middle", "abcd", "axcd", []api.Edit{{At: 1, Del: 1, Ins: "x"}}},
		{"a replacement at the end", "abcd", "abxyz", []api.Edit{{At: 2, Del: 2, Ins: "xyz"}}},
		{"at the start, in the middle and at the end", "1abc2def3", "abcXdefYZ", []api.Edit{{Del: 1}, {At: 4, Del: 1, Ins: "X"}, {At: 8, Del: 1, Ins: "YZ"}}},
		{"two deletions", "aXbYc", "abc", []api.Edit{{At: 1, Del: 1}, {At: 3, Del: 1}}},
		{"two insertions", "abc", "aXXbYc", []api.Edit{{At: 1, Ins: "XX"}, {At: 2, Ins: "Y"}}},
		{"offsets refer to a", "abcd", "XXXbYYYd", []api.Edit{{Del: 1, Ins: "XXX"}, {At: 2, Del: 1, Ins: "YYY"}}},

		{"nothing in common", "abc", "xyz", []api.Edit{{Del: 3, Ins: "xyz"}}},
		{"nothing in common", "abc", "z", []api.Edit{{Del: 3, Ins: "z"}}},
		{"insertions on both sides of a match", "cb", "acab", []api.Edit{{Ins: "a"}, {At: 1, Ins: "a"}}},
		{"a run of deletions and insertions", "abX", "cdefX", []api.Edit{{Del: 2, Ins: "cdef"}}},
		{"runs of several kinds", "dcba", "abcda", []api.Edit{{Del: 2, Ins: "a"}, {At: 3, Ins: "cd"}}},
		{"a match between deletion and insertion", "ba", "aca", []api.Edit{{Del: 1}, {At: 2, Ins: "ca"}}},

		{"a tie", "ab", "ba", []api.Edit{{Del: 1}, {At: 2, Ins: "a"}}},
		{"a tie", "abc", "cab", []api.Edit{{Ins: "c"}, {At: 2, Del: 1}}},
		{"ties", "abab", "baba", []api.Edit{{Del: 1}, {At: 4, Ins: "a"}}},
		{"ties between unequal bytes", "ax", "bx", []api.Edit{{Del: 1, Ins: "b"}}},
		{"ties, then a match before the end", "xa", "yaa", []api.Edit{{Del: 1, Ins: "y"}, {At: 2, Ins: "a"}}},

		{"a match at the first chance", "aab", "ab", []api.Edit{{At: 1, Del: 1}}},
		{"a match at the first chance", "ab", "aab", []api.Edit{{At: 1, Ins: "a"}}},
		{"one repeated byte", "aaa", "aaaaa", []api.Edit{{At: 3, Ins: "aa"}}},
		{"one repeated byte", "aaaaa", "aaa", []api.Edit{{At: 3, Del: 2}}},

		{"bytes of one letter", "é", "è", []api.Edit{{At: 1, Del: 1, Ins: "\xa8"}}},
		{"bytes above 127", "\xff\x80", "\x7f\x80\x00", []api.Edit{{Del: 1, Ins: "\x7f"}, {At: 2, Ins: "\x00"}}},
		{"words", "kitten", "sitting", []api.Edit{{Del: 1, Ins: "s"}, {At: 4, Del: 1, Ins: "i"}, {At: 6, Ins: "g"}}},
	} {
		checkDiff(t, c.what, c.a, c.b, c.want)
	}
}

func TestHull(t *testing.T) { // P6.3
	for _, c := range []struct {
		what, a, b string
		want       api.Edit
	}{
		{"two empty strings", "", "", api.Edit{}},
		{"equal", "a", "a", api.Edit{At: 1}},
		{"equal", "abcabc", "abcabc", api.Edit{At: 6}},

		{"a is empty", "", "abc", api.Edit{Ins: "abc"}},
		{"b is empty", "abc", "", api.Edit{Del: 3}},
		{"a is a prefix", "ab", "abcd", api.Edit{At: 2, Ins: "cd"}},
		{"b is a prefix", "abcd", "ab", api.Edit{At: 2, Del: 2}},
		{"a is a suffix", "cd", "abcd", api.Edit{Ins: "ab"}},
		{"b is a suffix", "abcd", "cd", api.Edit{Del: 2}},
		{"a is a prefix and a suffix", "ab", "abXab", api.Edit{At: 2, Ins: "Xab"}},
		{"b is a prefix and a suffix", "abXab", "ab", api.Edit{At: 2, Del: 3}},

		{"the prefix comes first", "abcd", "abxbcd", api.Edit{At: 2, Ins: "xb"}},
		{"the prefix comes first", "abXab", "abab", api.Edit{At: 2, Del: 1}},
		{"prefix and suffix overlap in b", "aaa", "aa", api.Edit{At: 2, Del: 1}},
		{"prefix and suffix overlap in a", "aa", "aaaaa", api.Edit{At: 2, Ins: "aaa"}},
		{"prefix and suffix overlap in b", "abab", "ab", api.Edit{At: 2, Del: 2}},
		{"prefix and suffix overlap in a", "aba", "ababa", api.Edit{At: 3, Ins: "ba"}},
		{"prefix and suffix overlap by a part", "abcbcd", "abcd", api.Edit{At: 3, Del: 2}},

		{"nothing in common", "abc", "xyz", api.Edit{Del: 3, Ins: "xyz"}},
		{"nothing in common", "a", "xyz", api.Edit{Del: 1, Ins: "xyz"}},
		{"common bytes in between only", "xabcy", "1abc2", api.Edit{Del: 5, Ins: "1abc2"}},
		{"a replacement in the middle", "abcdef", "abXYef", api.Edit{At: 2, Del: 2, Ins: "XY"}},
		{"two changes", "1abc2def3", "1aXc2dYef3", api.Edit{At: 2, Del: 4, Ins: "Xc2dY"}},
		{"bytes of one letter", "né.", "nè.", api.Edit{At: 2, Del: 1, Ins: "\xa8"}},
		{"bytes above 127", "\xff\x80\x00", "\xff\x00\x00", api.Edit{At: 1, Del: 1, Ins: "\x00"}},
	} {
		checkHull(t, c.what, c.a, c.b, c.want)
	}
}

func TestLongStrings(t *testing.T) { // P6.1, P6.2, P6.3
	const n = 4000 // the greatest length of a document
	a := strings.Repeat("abcde", n/5)
	for _, c := range []struct {
		what, b  string
		distance int
		diff     []api.Edit
		hull     api.Edit
	}{
		{"equal", a, 0, nil, api.Edit{At: n}},
		{"nothing in common", strings.Repeat("X", n), 2 * n, []api.Edit{{Del: n, Ins: strings.Repeat("X", n)}}, api.Edit{Del: n, Ins: strings.Repeat("X", n)}},
		{"empty", "", n, []api.Edit{{Del: n}}, api.Edit{Del: n}},
		{"changed at both ends", "X" + a[1:n-1] + "Y", 4, []api.Edit{{Del: 1, Ins: "X"}, {At: n - 1, Del: 1, Ins: "Y"}}, api.Edit{Del: n, Ins: "X" + a[1:n-1] + "Y"}},
		{"shifted", a[7:] + "1234567", 14, []api.Edit{{Del: 2}, {At: n - 5, Del: 5, Ins: "1234567"}}, api.Edit{Del: n, Ins: a[7:] + "1234567"}},
	} {
		checkDistance(t, a, c.b, c.distance)
		checkDiff(t, c.what, a, c.b, c.diff)
		checkHull(t, c.what, a, c.b, c.hull)
	}
	checkDistance(t, "abc", strings.Repeat("x", 1000000)+"b", 1000002)
	checkDiff(t, "a long insertion", "", strings.Repeat("x", 1000000), []api.Edit{{Ins: strings.Repeat("x", 1000000)}})
}
