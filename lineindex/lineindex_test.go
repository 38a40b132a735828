package lineindex_test

import (
	"math"
	"slices"
	"strings"
	"testing"

	"emendate/api"
	"emendate/lineindex"
)

// outside returns numbers that are not between 0 and last.
func outside(last int) []int {
	return []int{-1, -2, -1 << 31, -1 << 32, math.MinInt + 1, math.MinInt, last + 1, last + 2, 1 << 31, 1 << 32, 1 << 62, math.MaxInt - 1, math.MaxInt}
}

// positions walks over the bytes of s and returns the position of every offset, that of the end included.
func positions(s string) []api.Position {
	var p api.Position
	l := []api.Position{p}
	for i := range len(s) {
		p.Col++
		if s[i] == '\n' {
			p = api.Position{Line: p.Line + 1}
		}
		l = append(l, p)
	}
	return l
}

func checkLines(t *testing.T, what string, x lineindex.Index, want []string) {
	t.Helper()
	if x.Lines() != len(want) {
		t.Fatalf("P4.1: %s: %d lines, want %d", what, x.Lines(), len(want))
	}
	for n, line := range want {
		if got, err := x.Line(n); got != line || err != api.OK {
			t.Fatalf("P4.1: %s: Line(%d): %.80q, error %d, want %.80q", what, n, got, err, line)
		}
	}
	for _, n := range outside(len(want) - 1) {
		if got, err := x.Line(n); got != "" || err != api.ErrRange {
			t.Fatalf("P4.1: %s: Line(%d): %.80q, error %d, want ErrRange", what, n, got, err)
		}
	}
}

// checkPositions requires that the offsets from 0 on have the wanted positions, and these the offsets.
func checkPositions(t *testing.T, what string, x lineindex.Index, want []api.Position) {
	t.Helper()
	for offset, p := range want {
		if got, err := x.Position(offset); got != p || err != api.OK {
			t.Fatalf("P4.2: %s: Position(%d): %v, error %d, want %v", what, offset, got, err, p)
		}
		if got, err := x.Offset(p); got != offset || err != api.OK {
			t.Fatalf("P4.2: %s: Offset(%v): %d, error %d, want %d", what, p, got, err, offset)
		}
	}
	for _, offset := range outside(len(want) - 1) {
		if got, err := x.Position(offset); got != (api.Position{}) || err != api.ErrRange {
			t.Fatalf("P4.2: %s: Position(%d): %v, error %d, want ErrRange", what, offset, got, err)
		}
	}
}

func checkNoOffset(t *testing.T, what string, x lineindex.Index, p api.Position) {
	t.Helper()
	if got, err := x.Offset(p); got != 0 || err != api.ErrRange {
		t.Fatalf("P4.2: %s: Offset(%v): %d, error %d, want ErrRange", what, p, got, err)
	}
}

// check compares all that an index says of its text with the text.
func check(t *testing.T, what string, x lineindex.Index, text string) {
	t.Helper()
	lines := strings.Split(text, "\n")
	checkLines(t, what, x, lines)
	checkPositions(t, what, x, positions(text))
	for n, line := range lines {
		for _, col := range outside(len(line)) {
			checkNoOffset(t, what, x, api.Position{Line: n, Col: col})
		}
	}
	for _, n := range outside(len(lines) - 1) {
		for _, col := range []int{0, 1, -1, math.MinInt, math.MaxInt} {
			checkNoOffset(t, what, x, api.Position{Line: n, Col: col})
		}
	}
}

// textsUpTo returns all texts of at most n bytes that consist of a, b and line feeds.
func textsUpTo(n int) []string {
	all := []string{""}
	for last := all; n > 0; n-- {
		var longer []string
		for _, s := range last {
			longer = append(longer, s+"a", s+"b", s+"\n")
		}
		all, last = append(all, longer...), longer
	}
	return all
}

// longTexts have many lines, long lines, and bytes that are no UTF-8.
func longTexts() []string {
	var l []string
	for _, line := range []string{"", "x", "\xff\x00", "lineé", strings.Repeat("long ", 100)} {
		l = append(l, line, strings.Repeat(line+"\n", 50), strings.Repeat("\n\n"+line, 50)+"end")
	}
	return append(l, strings.Repeat("\n", 1000), strings.Repeat("a\nbc\n\n", 200))
}

func TestLines(t *testing.T) { // P4.1
	for _, c := range []struct {
		what, s string
		want    []string
	}{
		{"the empty text", "", []string{""}},
		{"a single byte", "a", []string{"a"}},
		{"without a line feed", "abc def", []string{"abc def"}},
		{"a single line feed", "\n", []string{"", ""}},
		{"a line feed at the start", "\nab", []string{"", "ab"}},
		{"a line feed at the end", "ab\n", []string{"ab", ""}},
		{"line feeds at both ends", "\nab\n", []string{"", "ab", ""}},
		{"a line feed in the middle", "ab\ncde", []string{"ab", "cde"}},
		{"an empty line in the middle", "ab\n\ncd", []string{"ab", "", "cd"}},
		{"empty lines in the middle", "ab\n\n\n\ncd\n\nef", []string{"ab", "", "", "", "cd", "", "ef"}},
		{"empty lines at the start", "\n\n\nab", []string{"", "", "", "ab"}},
		{"empty lines at the end", "ab\n\n\n", []string{"ab", "", "", ""}},
		{"only line feeds", "\n\n\n", []string{"", "", "", ""}},
		{"only line feeds end a line", "a\r\nb\rc\vd\fe\u0085f\u2028g\x00h", []string{"a\r", "b\rc\vd\fe\u0085f\u2028g\x00h"}},
		{"no UTF-8", "\xff\n\xc3\n\xa9\xe2\n\x80", []string{"\xff", "\xc3", "\xa9\xe2", "\x80"}},
	} {
		t.Run(c.what, func(t *testing.T) { checkLines(t, c.what, lineindex.New(c.s), c.want) })
	}
}

func TestZeroIndex(t *testing.T) { // P4.1, P4.2, P4.3
	var zero lineindex.Index
	check(t, "the zero Index", zero, "")
	if s, err := zero.Line(0); s != "" || err != api.OK {
		t.Errorf("Line(0): %q, error %d", s, err)
	}
	if p, err := zero.Position(0); p != (api.Position{}) || err != api.OK {
		t.Errorf("Position(0): %v, error %d", p, err)
	}
	if at, err := zero.Offset(api.Position{}); at != 0 || err != api.OK {
		t.Errorf("Offset of line 0, column 0: %d, error %d", at, err)
	}
	checkMisfits(t, "the zero Index", zero, "")
	check(t, "the updated zero Index", update(t, zero, api.Edit{Ins: "\na"}), "\na")
	check(t, "the zero Index behind an update", zero, "")
}

func TestPosition(t *testing.T) { // P4.2
	for _, c := range []struct {
		what, s string
		offset  int
		want    api.Position
	}{
		{"offset 0", "ab\n\ncd", 0, api.Position{}},
		{"offset 0 of the empty text", "", 0, api.Position{}},
		{"offset 0, a line feed", "\nab", 0, api.Position{}},
		{"in the first line", "ab\n\ncd", 1, api.Position{Col: 1}},
		{"at a line feed", "ab\n\ncd", 2, api.Position{Col: 2}},
		{"behind a line feed, at another", "ab\n\ncd", 3, api.Position{Line: 1}},
		{"behind a line feed", "ab\n\ncd", 4, api.Position{Line: 2}},
		{"in the last line", "ab\n\ncd", 5, api.Position{Line: 2, Col: 1}},
		{"at the end", "ab\n\ncd", 6, api.Position{Line: 2, Col: 2}},
		{"in a line in the middle", "a\nbcd\ne", 4, api.Position{Line: 1, Col: 2}},
		{"at the line feed of a line in the middle", "a\nbcd\ne", 5, api.Position{Line: 1, Col: 3}},
		{"at the end of a single line", "abc", 3, api.Position{Col: 3}},
		{"at the end, behind a line feed", "ab\n", 3, api.Position{Line: 1}},
		{"at the end of line feeds", "\n\n\n", 3, api.Position{Line: 3}},
		{"columns count bytes", "é\nßé", 6, api.Position{Line: 1, Col: 3}},
		{"columns count carriage returns", "a\r\nb", 2, api.Position{Col: 2}},
	} {
		t.Run(c.what, func(t *testing.T) {
			x := lineindex.New(c.s)
			if got, err := x.Position(c.offset); got != c.want || err != api.OK {
				t.Errorf("Position(%d) of %q: %v, error %d, want %v", c.offset, c.s, got, err, c.want)
			}
			if got, err := x.Offset(c.want); got != c.offset || err != api.OK {
				t.Errorf("Offset(%v) of %q: %d, error %d, want %d", c.want, c.s, got, err, c.offset)
			}
		})
	}
}

func TestPositionOutsideTheText(t *testing.T) { // P4.2
	for _, s := range append(textsUpTo(3), longTexts()...) {
		x := lineindex.New(s)
		for _, offset := range outside(len(s)) {
			if p, err := x.Position(offset); p != (api.Position{}) || err != api.ErrRange {
				t.Fatalf("Position(%d) of %.80q: %v, error %d, want ErrRange", offset, s, p, err)
			}
		}
	}
}

func TestOffsetOfNoPosition(t *testing.T) { // P4.2
	x := lineindex.New("abc\n\nde\nf")
	for _, p := range []api.Position{
		{Line: 0, Col: 4}, // at offset 4, but in line 1
		{Line: 1, Col: 1},
		{Line: 2, Col: 3},
		{Line: 3, Col: 2}, // beyond the text
		{Line: 0, Col: 9},
		{Line: 0, Col: -1},
		{Line: 1, Col: -1}, // at offset 3, but in line 0
		{Line: 3, Col: -1},
		{Line: 3, Col: -8},
		{Line: 4},
		{Line: 4, Col: -1},
		{Line: -1},
		{Line: -1, Col: 1},
		{Line: 3, Col: math.MaxInt},
		{Line: 3, Col: math.MinInt},
		{Line: math.MaxInt},
		{Line: math.MinInt},
		{Line: math.MaxInt, Col: math.MaxInt},
		{Line: math.MinInt, Col: math.MinInt},
	} {
		checkNoOffset(t, "four lines", x, p)
	}
}

func TestNewOfAllShortTexts(t *testing.T) { // P4.1, P4.2
	for _, s := range textsUpTo(6) {
		check(t, s, lineindex.New(s), s)
	}
}

func TestNewOfLongTexts(t *testing.T) { // P4.1, P4.2
	for _, s := range longTexts() {
		check(t, s[:min(len(s), 20)], lineindex.New(s), s)
	}
}

func TestPositionAndOffsetAreInverse(t *testing.T) { // P4.4
	for _, s := range append(textsUpTo(5), longTexts()...) {
		x := lineindex.New(s)
		for offset := range len(s) + 1 {
			p, err := x.Position(offset)
			back, err2 := x.Offset(p)
			if back != offset || err != api.OK || err2 != api.OK {
				t.Fatalf("%.80q: offset %d has position %v, which has offset %d, errors %d, %d", s, offset, p, back, err, err2)
			}
		}
		for n := range x.Lines() {
			line, _ := x.Line(n)
			for col := range len(line) + 1 {
				p := api.Position{Line: n, Col: col}
				offset, err := x.Offset(p)
				back, err2 := x.Position(offset)
				if back != p || err != api.OK || err2 != api.OK {
					t.Fatalf("%.80q: position %v has offset %d, which has position %v, errors %d, %d", s, p, offset, back, err, err2)
				}
			}
		}
	}
}

func before(p, q api.Position) bool {
	return p.Line < q.Line || p.Line == q.Line && p.Col < q.Col
}

func TestPositionsIncrease(t *testing.T) { // P4.4
	for _, s := range append(textsUpTo(5), longTexts()...) {
		x := lineindex.New(s)
		last, _ := x.Position(0)
		for offset := 1; offset <= len(s); offset++ {
			p, err := x.Position(offset)
			if err != api.OK || !before(last, p) {
				t.Fatalf("%.80q: Position(%d): %v, error %d, behind %v", s, offset, p, err, last)
			}
			last = p
		}
	}
}

func TestJoinedLinesAreTheText(t *testing.T) { // P4.4
	for _, s := range append(textsUpTo(5), longTexts()...) {
		if got := joined(t, lineindex.New(s)); got != s {
			t.Fatalf("the lines of %.80q are those of %.80q", s, got)
		}
	}
}

func joined(t *testing.T, x lineindex.Index) string {
	t.Helper()
	var lines []string
	for n := range x.Lines() {
		line, err := x.Line(n)
		if err != api.OK || strings.Contains(line, "\n") {
			t.Fatalf("Line(%d): %.80q, error %d", n, line, err)
		}
		lines = append(lines, line)
	}
	return strings.Join(lines, "\n")
}

func TestOrderOfPositionsIsThatOfOffsets(t *testing.T) { // P4.4
	s := "ab\n\nc\n"
	x := lineindex.New(s)
	var got []int
	for line := range 5 {
		for col := range 5 {
			if offset, err := x.Offset(api.Position{Line: line, Col: col}); err == api.OK {
				got = append(got, offset)
			}
		}
	}
	if want := []int{0, 1, 2, 3, 4, 5, 6}; !slices.Equal(got, want) {
		t.Errorf("the offsets of all positions of %q are %v, want %v", s, got, want)
	}
}
