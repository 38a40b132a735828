package lineindex_test

import (
	"math"
	"strings"
	"testing"

	"emendate/api"
	"emendate/lineindex"
)

func edited(s string, e api.Edit) string { return s[:e.At] + e.Ins + s[e.At+e.Del:] }

func update(t *testing.T, x lineindex.Index, e api.Edit) lineindex.Index {
	t.Helper()
	y, err := x.Update(e)
	if err != api.OK {
		t.Fatalf("P4.3: Update(%v): error %d", e, err)
	}
	return y
}

// misfits returns edits that do not fit a text of n bytes.
func misfits(n int) []api.Edit {
	l := []api.Edit{
		{At: n + 1},
		{At: n + 1, Ins: "\n"},
		{At: n + 1, Del: -1},
		{At: n, Del: 1},
		{At: n, Del: -1, Ins: "x"},
		{At: 0, Del: n + 1, Ins: "\n"},
		{At: -1},
		{At: -1, Ins: "x"},
		{At: -1, Del: 1},
		{At: -1, Del: n + 1},
		{At: 0, Del: -1},
		{At: -2, Del: -3, Ins: "\n"},
	}
	for _, large := range []int{math.MinInt, math.MinInt + 1, 1 << 31, 1 << 32, 1 << 62, math.MaxInt - 1, math.MaxInt} {
		l = append(l, api.Edit{At: large, Ins: "\n"}, api.Edit{Del: large}, api.Edit{At: large, Del: large}, api.Edit{At: 1, Del: large},
			api.Edit{At: large, Del: 1}, api.Edit{At: large, Del: -large}, api.Edit{At: math.MaxInt, Del: large}, api.Edit{At: math.MinInt, Del: large})
	}
	return l
}

func checkMisfits(t *testing.T, what string, x lineindex.Index, text string) {
	t.Helper()
	for _, e := range misfits(len(text)) {
		y, err := x.Update(e)
		if err != api.ErrRange {
			t.Fatalf("P4.3: %s: Update(%v): error %d, want ErrRange", what, e, err)
		}
		check(t, what+": the result beside an error", y, "")
	}
	check(t, what+": the index behind the errors", x, text)
}

func TestUpdate(t *testing.T) { // P4.3
	for _, c := range []struct {
		what, s string
		e       api.Edit
		want    []string
	}{
		{"inserting a line feed at the start", "ab\ncd", api.Edit{Ins: "\n"}, []string{"", "ab", "cd"}},
		{"inserting a line feed in the middle", "ab\ncd", api.Edit{At: 1, Ins: "\n"}, []string{"a", "b", "cd"}},
		{"inserting a line feed at a line feed", "ab\ncd", api.Edit{At: 2, Ins: "\n"}, []string{"ab", "", "cd"}},
		{"inserting a line feed behind a line feed", "ab\ncd", api.Edit{At: 3, Ins: "\n"}, []string{"ab", "", "cd"}},
		{"inserting a line feed at the end", "ab\ncd", api.Edit{At: 5, Ins: "\n"}, []string{"ab", "cd", ""}},
		{"inserting lines", "ab\ncd", api.Edit{At: 4, Ins: "1\n2\n\n3"}, []string{"ab", "c1", "2", "", "3d"}},

		{"deleting a line feed at the start", "\nab\ncd", api.Edit{Del: 1}, []string{"ab", "cd"}},
		{"deleting a line feed in the middle", "ab\ncd\nef", api.Edit{At: 2, Del: 1}, []string{"abcd", "ef"}},
		{"deleting a line feed at the end", "ab\ncd\n", api.Edit{At: 5, Del: 1}, []string{"ab", "cd"}},
		{"deleting one of two line feeds", "ab\n\ncd", api.Edit{At: 3, Del: 1}, []string{"ab", "cd"}},
		{"deleting lines", "ab\ncd\nef\ngh", api.Edit{At: 3, Del: 6}, []string{"ab", "gh"}},
		{"joining lines", "ab\ncd\nef\ngh", api.Edit{At: 1, Del: 6}, []string{"af", "gh"}},
		{"deleting the last line", "ab\ncd\nef", api.Edit{At: 5, Del: 3}, []string{"ab", "cd"}},

		{"replacing a line feed at the start", "\nab\ncd", api.Edit{Del: 1, Ins: "-"}, []string{"-ab", "cd"}},
		{"replacing a line feed in the middle", "ab\ncd\nef", api.Edit{At: 2, Del: 1, Ins: "-"}, []string{"ab-cd", "ef"}},
		{"replacing a line feed at the end", "ab\ncd\n", api.Edit{At: 5, Del: 1, Ins: "-"}, []string{"ab", "cd-"}},
		{"replacing line feeds by line feeds", "ab\n\ncd\nef", api.Edit{At: 2, Del: 2, Ins: "\nx\n"}, []string{"ab", "x", "cd", "ef"}},
		{"replacing a line feed by itself", "ab\ncd", api.Edit{At: 2, Del: 1, Ins: "\n"}, []string{"ab", "cd"}},
		{"replacing bytes by a line feed", "abcd\nef", api.Edit{At: 1, Del: 2, Ins: "\n"}, []string{"a", "d", "ef"}},
		{"joining and splitting lines", "ab\ncd\nef", api.Edit{At: 1, Del: 6, Ins: "1\n2"}, []string{"a1", "2f"}},

		{"making a line longer", "ab\ncd\nef", api.Edit{At: 3, Ins: "xyz"}, []string{"ab", "xyzcd", "ef"}},
		{"making a line shorter", "ab\ncd\nef", api.Edit{At: 3, Del: 2}, []string{"ab", "", "ef"}},
		{"changing nothing at the start", "ab\ncd", api.Edit{}, []string{"ab", "cd"}},
		{"changing nothing in the middle", "ab\ncd", api.Edit{At: 2}, []string{"ab", "cd"}},
		{"changing nothing at the end", "ab\ncd", api.Edit{At: 5}, []string{"ab", "cd"}},

		{"replacing the whole text", "ab\ncd\n", api.Edit{Del: 6, Ins: "x\n\ny"}, []string{"x", "", "y"}},
		{"replacing the whole text by itself", "ab\ncd", api.Edit{Del: 5, Ins: "ab\ncd"}, []string{"ab", "cd"}},
		{"deleting the whole text", "ab\ncd\n", api.Edit{Del: 6}, []string{""}},
		{"filling the empty text", "", api.Edit{Ins: "ab\n"}, []string{"ab", ""}},
		{"changing nothing in the empty text", "", api.Edit{}, []string{""}},
	} {
		t.Run(c.what, func(t *testing.T) {
			x := lineindex.New(c.s)
			y := update(t, x, c.e)
			checkLines(t, c.what, y, c.want)
			check(t, "the updated index", y, strings.Join(c.want, "\n"))
			check(t, "the index before the update", x, c.s)
		})
	}
}

func TestUpdateRefusesWhatDoesNotFit(t *testing.T) { // P4.3
	for _, s := range []string{"", "a", "\n", "ab\n\ncd", "ab\n", strings.Repeat("long \n", 20)} {
		checkMisfits(t, s, lineindex.New(s), s)
		checkMisfits(t, s+" updated", update(t, lineindex.New("x\n"), api.Edit{Del: 2, Ins: s}), s)
	}
}

// eachEdit calls f with every edit that fits a text of n bytes and inserts at most 2 bytes.
func eachEdit(n int, f func(e api.Edit)) {
	inserts := textsUpTo(2)
	for at := range n + 1 {
		for del := range n - at + 1 {
			for _, ins := range inserts {
				f(api.Edit{At: at, Del: del, Ins: ins})
			}
		}
	}
}

func TestAllSmallUpdates(t *testing.T) { // P4.3, P4.4
	for _, s := range textsUpTo(4) {
		x := lineindex.New(s)
		eachEdit(len(s), func(e api.Edit) { check(t, s, update(t, x, e), edited(s, e)) })
		check(t, s+" behind all updates", x, s)
	}
}

// numbers is a fixed sequence of numbers that look random.
type numbers uint64

func (x *numbers) below(n int) int {
	*x = *x*6364136223846793005 + 1442695040888963407
	return int(uint64(*x) >> 33 % uint64(n))
}

func someEdit(x *numbers, n int) api.Edit {
	at := x.below(n + 1)
	pieces := []string{"", "", "a", "\n", "bc\n", "\nde", "\n\n", "f\ng\n\nh", "line \xff\n"}
	return api.Edit{At: at, Del: x.below(min(n-at, 8) + 1), Ins: pieces[x.below(len(pieces))]}
}

// checkSame requires that x answers like the index y of a text with n bytes, for all offsets, lines and columns and those just outside.
func checkSame(t *testing.T, x, y lineindex.Index, n int) {
	t.Helper()
	if x.Lines() != y.Lines() {
		t.Fatalf("P4.4: %d lines, want %d", x.Lines(), y.Lines())
	}
	for i := -1; i <= n+1; i++ {
		p, err := x.Position(i)
		q, err2 := y.Position(i)
		if p != q || err != err2 {
			t.Fatalf("P4.4: Position(%d): %v, error %d, want %v, error %d", i, p, err, q, err2)
		}
	}
	for i := -1; i <= y.Lines(); i++ {
		s, err := x.Line(i)
		line, err2 := y.Line(i)
		if s != line || err != err2 {
			t.Fatalf("P4.4: Line(%d): %q, error %d, want %q, error %d", i, s, err, line, err2)
		}
		for col := -1; col <= len(line)+1; col++ {
			p := api.Position{Line: i, Col: col}
			at, err := x.Offset(p)
			want, err2 := y.Offset(p)
			if at != want || err != err2 {
				t.Fatalf("P4.4: Offset(%v): %d, error %d, want %d, error %d", p, at, err, want, err2)
			}
		}
	}
}

func TestManyUpdates(t *testing.T) { // P4.3, P4.4
	for seed := range 5 {
		x := numbers(seed)
		text := strings.Repeat("ab\n\nc", seed)
		index := lineindex.New(text)
		for range 500 {
			e := someEdit(&x, len(text))
			last, lastText := index, text
			index, text = update(t, index, e), edited(text, e)
			checkSame(t, index, lineindex.New(text), len(text))
			check(t, "the updated index", index, text)
			check(t, "the index before the update", last, lastText)
		}
	}
}

// Indices with a common past must not write into memory that they share.
func TestUpdatesOfTheSameIndex(t *testing.T) { // P4.3
	text := strings.Repeat("ab\n", 9)
	index := lineindex.New(text)
	for round := range 20 {
		x := numbers(round)
		var edits []api.Edit
		var branches []lineindex.Index
		for range 10 {
			e := someEdit(&x, len(text))
			edits = append(edits, e)
			branches = append(branches, update(t, index, e))
		}
		for _, e := range []api.Edit{{At: len(text), Ins: "x\n"}, {At: len(text), Ins: "\n\n"}} {
			edits = append(edits, e)
			branches = append(branches, update(t, index, e))
		}
		for i, y := range branches {
			check(t, "a branch", y, edited(text, edits[i]))
		}
		check(t, "the common past", index, text)
		index, text = branches[round%12], edited(text, edits[round%12])
	}
}

func TestUpdatesThatUndoEachOther(t *testing.T) { // P4.4
	for _, s := range textsUpTo(4) {
		x := lineindex.New(s)
		eachEdit(len(s), func(e api.Edit) {
			back := api.Edit{At: e.At, Del: len(e.Ins), Ins: s[e.At : e.At+e.Del]}
			checkSame(t, update(t, update(t, x, e), back), x, len(s))
		})
	}
}
