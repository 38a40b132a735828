package undo_test

import (
	"fmt"
	"math"
	"runtime"
	"strings"
	"testing"

	"emendate/api"
	"emendate/undo"
)

// state is all that a history shows.
type state struct {
	text                    string
	version, undoes, redoes int
}

func stateOf(h *undo.History) state {
	undoes, redoes := h.Depth()
	return state{h.Text(), h.Version(), undoes, redoes}
}

func checkState(t *testing.T, what string, h *undo.History, want state) {
	t.Helper()
	if got := stateOf(h); got != want {
		t.Fatalf("%s: text %.80q (%d bytes), version %d, depths %d and %d, want %.80q (%d bytes), %d, %d and %d", what,
			got.text, len(got.text), got.version, got.undoes, got.redoes, want.text, len(want.text), want.version, want.undoes, want.redoes)
	}
}

// short describes an edit whose text may be long.
func short(e api.Edit) string { return fmt.Sprintf("%d %d %.80q", e.At, e.Del, e.Ins) }

// do requires that the edits are done.
func do(t *testing.T, h *undo.History, l ...api.Edit) {
	t.Helper()
	for _, e := range l {
		if err := h.Do(e); err != api.OK {
			t.Fatalf("Do(%s): error %d", short(e), err)
		}
	}
}

// checkRefused requires that e is refused with the error and nothing else.
func checkRefused(t *testing.T, what string, h *undo.History, e api.Edit, want api.Errno) {
	t.Helper()
	before := stateOf(h)
	if err := h.Do(e); err != want {
		t.Fatalf("P5.2: %s: Do(%s): error %d, want %d", what, short(e), err, want)
	}
	checkState(t, "P5.2: "+what+", behind an error of Do", h, before)
}

func checkUndo(t *testing.T, h *undo.History, want api.Edit) {
	t.Helper()
	if e, err := h.Undo(); e != want || err != api.OK {
		t.Fatalf("P5.3: Undo: %s, error %d, want %s", short(e), err, short(want))
	}
}

func checkRedo(t *testing.T, h *undo.History, want api.Edit) {
	t.Helper()
	if e, err := h.Redo(); e != want || err != api.OK {
		t.Fatalf("P5.3: Redo: %s, error %d, want %s", short(e), err, short(want))
	}
}

func checkNothingToUndo(t *testing.T, h *undo.History) {
	t.Helper()
	before := stateOf(h)
	if e, err := h.Undo(); e != (api.Edit{}) || err != api.ErrState {
		t.Fatalf("P5.3: Undo of nothing: %s, error %d, want ErrState", short(e), err)
	}
	checkState(t, "P5.3: behind an error of Undo", h, before)
}

func checkNothingToRedo(t *testing.T, h *undo.History) {
	t.Helper()
	before := stateOf(h)
	if e, err := h.Redo(); e != (api.Edit{}) || err != api.ErrState {
		t.Fatalf("P5.3: Redo of nothing: %s, error %d, want ErrState", short(e), err)
	}
	checkState(t, "P5.3: behind an error of Redo", h, before)
}

// misfits returns edits that do not fit a text of n bytes.
func misfits(n int) []api.Edit {
	l := []api.Edit{
		{At: n + 1},
		{At: n + 1, Ins: "x"},
		{At: n + 1, Del: -1},
		{At: n, Del: 1},
		{At: n, Del: -1, Ins: "x"},
		{At: 0, Del: n + 1, Ins: "x"},
		{At: -1},
		{At: -1, Ins: "x"},
		{At: -1, Del: 1},
		{At: -1, Del: n + 1},
		{At: 0, Del: -1},
		{At: -2, Del: -3, Ins: "x"},
	}
	for _, large := range []int{math.MinInt, math.MinInt + 1, 1 << 31, 1 << 32, 1 << 62, math.MaxInt - 1, math.MaxInt} {
		l = append(l, api.Edit{At: large, Ins: "x"}, api.Edit{Del: large}, api.Edit{At: large, Del: large}, api.Edit{At: 1, Del: large},
			api.Edit{At: large, Del: 1}, api.Edit{At: large, Del: -large}, api.Edit{At: math.MaxInt, Del: large}, api.Edit{At: math.MinInt, Del: large})
	}
	return l
}

func letters(n int) string { return strings.Repeat("abcdefghij", n/10+1)[:n] }

func TestNew(t *testing.T) { // P5.1
	for _, s := range []string{"", "a", "abc", "é\x00\n\xff", letters(3999), letters(4000), letters(4001), letters(100000)} {
		h := undo.New(s)
		checkState(t, "P5.1: a new history", h, state{text: s})
		checkState(t, "P5.1: a history that was only looked at", h, state{text: s})
	}
}

func TestTextVersionAndDepth(t *testing.T) { // P5.1
	h := undo.New("abc")
	undoIt := func() api.Errno { _, err := h.Undo(); return err }
	redoIt := func() api.Errno { _, err := h.Redo(); return err }
	doIt := func(at, del int, ins string) func() api.Errno {
		return func() api.Errno { return h.Do(api.Edit{At: at, Del: del, Ins: ins}) }
	}
	for i, c := range []struct {
		call func() api.Errno
		err  api.Errno
		want state
	}{
		{undoIt, api.ErrState, state{"abc", 0, 0, 0}},
		{redoIt, api.ErrState, state{"abc", 0, 0, 0}},
		{doIt(4, 0, "x"), api.ErrRange, state{"abc", 0, 0, 0}},
		{doIt(1, 1, "xy"), api.OK, state{"axyc", 1, 1, 0}},
		{redoIt, api.ErrState, state{"axyc", 1, 1, 0}},
		{doIt(0, 0, "z"), api.OK, state{"zaxyc", 2, 2, 0}},
		{doIt(2, -1, "z"), api.ErrRange, state{"zaxyc", 2, 2, 0}},
		{doIt(2, 0, ""), api.OK, state{"zaxyc", 3, 3, 0}},
		{doIt(5, 0, letters(3996)), api.ErrLimit, state{"zaxyc", 3, 3, 0}},
		{undoIt, api.OK, state{"zaxyc", 4, 2, 1}},
		{undoIt, api.OK, state{"axyc", 5, 1, 2}},
		{undoIt, api.OK, state{"abc", 6, 0, 3}},
		{undoIt, api.ErrState, state{"abc", 6, 0, 3}},
		{doIt(-1, 0, ""), api.ErrRange, state{"abc", 6, 0, 3}},
		{redoIt, api.OK, state{"axyc", 7, 1, 2}},
		{redoIt, api.OK, state{"zaxyc", 8, 2, 1}},
		{doIt(0, 0, letters(3996)), api.ErrLimit, state{"zaxyc", 8, 2, 1}},
		{redoIt, api.OK, state{"zaxyc", 9, 3, 0}},
		{redoIt, api.ErrState, state{"zaxyc", 9, 3, 0}},
		{undoIt, api.OK, state{"zaxyc", 10, 2, 1}},
		{undoIt, api.OK, state{"axyc", 11, 1, 2}},
		{doIt(0, 4, "new"), api.OK, state{"new", 12, 2, 0}},
		{redoIt, api.ErrState, state{"new", 12, 2, 0}},
		{undoIt, api.OK, state{"axyc", 13, 1, 1}},
		{undoIt, api.OK, state{"abc", 14, 0, 2}},
		{doIt(0, 3, ""), api.OK, state{"", 15, 1, 0}},
		{undoIt, api.OK, state{"abc", 16, 0, 1}},
	} {
		if err := c.call(); err != c.err {
			t.Fatalf("call %d: error %d, want %d", i, err, c.err)
		}
		checkState(t, "P5.1: behind a call", h, c.want)
	}
}

func TestDo(t *testing.T) { // P5.2
	for _, c := range []struct {
		what, s string
		e       api.Edit
		want    string
	}{
		{"inserting at the start", "abcdef", api.Edit{Ins: "X"}, "Xabcdef"},
		{"inserting in the middle", "abcdef", api.Edit{At: 3, Ins: "XY"}, "abcXYdef"},
		{"inserting at the end", "abcdef", api.Edit{At: 6, Ins: "X"}, "abcdefX"},
		{"deleting at the start", "abcdef", api.Edit{Del: 2}, "cdef"},
		{"deleting in the middle", "abcdef", api.Edit{At: 2, Del: 3}, "abf"},
		{"deleting at the end", "abcdef", api.Edit{At: 5, Del: 1}, "abcde"},
		{"deleting the whole text", "abcdef", api.Edit{Del: 6}, ""},
		{"replacing at the start", "abcdef", api.Edit{Del: 2, Ins: "X"}, "Xcdef"},
		{"replacing in the middle", "abcdef", api.Edit{At: 2, Del: 1, Ins: "XYZ"}, "abXYZdef"},
		{"replacing at the end", "abcdef", api.Edit{At: 4, Del: 2, Ins: "XY"}, "abcdXY"},
		{"replacing the whole text", "abcdef", api.Edit{Del: 6, Ins: "new"}, "new"},
		{"putting back what is deleted", "abcdef", api.Edit{At: 1, Del: 2, Ins: "bc"}, "abcdef"},
		{"the empty edit at the start", "abcdef", api.Edit{}, "abcdef"},
		{"the empty edit in the middle", "abcdef", api.Edit{At: 3}, "abcdef"},
		{"the empty edit at the end", "abcdef", api.Edit{At: 6}, "abcdef"},
		{"the empty edit of the empty text", "", api.Edit{}, ""},
		{"filling the empty text", "", api.Edit{Ins: "new"}, "new"},
		{"bytes that are no UTF-8", "aéb", api.Edit{At: 2, Del: 1, Ins: "\x00\xff"}, "a\xc3\x00\xffb"},
	} {
		h := undo.New(c.s)
		do(t, h, c.e)
		checkState(t, "P5.2: "+c.what, h, state{c.want, 1, 1, 0})
		back := api.Edit{At: c.e.At, Del: len(c.e.Ins), Ins: c.s[c.e.At : c.e.At+c.e.Del]}
		checkUndo(t, h, back)
		checkState(t, "P5.3: "+c.what+", undone", h, state{c.s, 2, 0, 1})
		checkRedo(t, h, c.e)
		checkState(t, "P5.3: "+c.what+", redone", h, state{c.want, 3, 1, 0})
		checkUndo(t, h, back)
	}
}

func TestDoRefusesWhatDoesNotFit(t *testing.T) { // P5.2
	for _, s := range []string{"", "a", "abcdef", "é\x00\n\xff", letters(4000), letters(5000)} {
		fresh := undo.New(s)
		used := undo.New("x")
		if len(s) <= api.MaxText {
			do(t, used, api.Edit{Del: 1, Ins: s}, api.Edit{Del: len(s), Ins: "yz"})
			checkUndo(t, used, api.Edit{Del: 2, Ins: s}) // one edit can be undone, one redone
		}
		for _, e := range misfits(len(s)) {
			checkRefused(t, "a misfit", fresh, e, api.ErrRange)
			e.Ins += letters(9001)
			checkRefused(t, "a misfit that is too long", fresh, e, api.ErrRange)
		}
		for _, e := range misfits(len(used.Text())) {
			checkRefused(t, "a misfit among edits", used, e, api.ErrRange)
		}
	}
	h := undo.New("abcdef") // the current text counts, not the first one
	do(t, h, api.Edit{Del: 5})
	checkRefused(t, "fits only the text before", h, api.Edit{Del: 2}, api.ErrRange)
	do(t, h, api.Edit{Ins: letters(20)}, api.Edit{At: 21})
}

func TestDoLimitsTheText(t *testing.T) { // P5.2
	for _, c := range []struct {
		what string
		n    int // bytes of the text before
		e    api.Edit
		err  api.Errno
	}{
		{"4000 bytes at once", 0, api.Edit{Ins: letters(4000)}, api.OK},
		{"4001 bytes at once", 0, api.Edit{Ins: letters(4001)}, api.ErrLimit},
		{"many bytes at once", 0, api.Edit{Ins: letters(100000)}, api.ErrLimit},
		{"the last byte", 3999, api.Edit{At: 3999, Ins: "x"}, api.OK},
		{"one byte too many", 4000, api.Edit{At: 4000, Ins: "x"}, api.ErrLimit},
		{"one byte too many at the start", 4000, api.Edit{Ins: "x"}, api.ErrLimit},
		{"one byte too many in the middle", 3990, api.Edit{At: 5, Ins: letters(11)}, api.ErrLimit},
		{"4000 bytes by a replacement", 3995, api.Edit{At: 5, Del: 5, Ins: letters(10)}, api.OK},
		{"4001 bytes by a replacement", 3995, api.Edit{At: 5, Del: 5, Ins: letters(11)}, api.ErrLimit},
		{"4000 bytes replaced by as many", 4000, api.Edit{Del: 4000, Ins: letters(4000)}, api.OK},
		{"4000 bytes replaced by one more", 4000, api.Edit{Del: 4000, Ins: letters(4001)}, api.ErrLimit},
		{"nothing at 4000 bytes", 4000, api.Edit{At: 7}, api.OK},
		{"a byte for a byte at 4000 bytes", 4000, api.Edit{At: 7, Del: 1, Ins: "x"}, api.OK},

		{"from a longer text to a longer one", 5000, api.Edit{At: 10, Del: 500}, api.ErrLimit},
		{"from a longer text to 4001 bytes", 5000, api.Edit{At: 10, Del: 999}, api.ErrLimit},
		{"from a longer text to 4000 bytes", 5000, api.Edit{At: 10, Del: 1000}, api.OK},
		{"from a longer text to 3999 bytes", 5000, api.Edit{At: 10, Del: 1001}, api.OK},
		{"from a longer text to 4001 bytes by a replacement", 5000, api.Edit{Del: 1500, Ins: letters(501)}, api.ErrLimit},
		{"from a longer text to 4000 bytes by a replacement", 5000, api.Edit{Del: 1500, Ins: letters(500)}, api.OK},
		{"from a longer text to none", 5000, api.Edit{Del: 5000}, api.OK},
		{"nothing at 4001 bytes", 4001, api.Edit{At: 7}, api.ErrLimit},
		{"a byte for a byte at 4001 bytes", 4001, api.Edit{At: 7, Del: 1, Ins: "x"}, api.ErrLimit},
		{"a longer text made longer", 5000, api.Edit{Ins: "x"}, api.ErrLimit},
		{"a misfit that would be too long", 3999, api.Edit{At: 4000, Ins: "xy"}, api.ErrRange},
		{"a misfit of a longer text", 5000, api.Edit{At: 5001}, api.ErrRange},
	} {
		s := letters(c.n)
		h := undo.New(s)
		if c.err != api.OK {
			checkRefused(t, c.what, h, c.e, c.err)
			continue
		}
		do(t, h, c.e)
		checkState(t, "P5.2: "+c.what, h, state{s[:c.e.At] + c.e.Ins + s[c.e.At+c.e.Del:], 1, 1, 0})
	}
}

func TestDoDiscardsTheRedoableEdits(t *testing.T) { // P5.2
	for _, e := range []api.Edit{{At: 1, Ins: "!"}, {}, {Del: 1}} {
		h := undo.New("abc")
		do(t, h, api.Edit{Ins: "x"}, api.Edit{Ins: "y"}, api.Edit{Ins: "z"})
		checkUndo(t, h, api.Edit{Del: 1})
		checkUndo(t, h, api.Edit{Del: 1})
		do(t, h, e)
		if undoes, redoes := h.Depth(); undoes != 2 || redoes != 0 {
			t.Errorf("P5.2: depths %d and %d behind Do(%v), want 2 and 0", undoes, redoes, e)
		}
		checkNothingToRedo(t, h)
	}
}

func TestRefusedEditsDiscardNothing(t *testing.T) { // P5.2
	h := undo.New("abc")
	do(t, h, api.Edit{Ins: "x"}, api.Edit{At: 1, Del: 3, Ins: "yz"})
	checkUndo(t, h, api.Edit{At: 1, Del: 2, Ins: "abc"})
	checkUndo(t, h, api.Edit{Del: 1})
	checkRefused(t, "too long", h, api.Edit{Ins: letters(4000)}, api.ErrLimit)
	checkRefused(t, "a misfit", h, api.Edit{At: 4}, api.ErrRange)
	checkRedo(t, h, api.Edit{Ins: "x"})
	checkRefused(t, "too long", h, api.Edit{Ins: letters(4000)}, api.ErrLimit)
	checkRefused(t, "a misfit", h, api.Edit{At: 4, Del: 1}, api.ErrRange)
	checkRedo(t, h, api.Edit{At: 1, Del: 3, Ins: "yz"})
	checkState(t, "P5.2", h, state{"xyz", 6, 2, 0})
}

func TestNothingToUndoOrRedo(t *testing.T) { // P5.3
	for _, s := range []string{"", "abc", letters(4000), letters(5000)} {
		h := undo.New(s)
		for range 3 {
			checkNothingToUndo(t, h)
			checkNothingToRedo(t, h)
		}
		n := len(s)
		do(t, h, api.Edit{Del: n, Ins: "x"})
		checkNothingToRedo(t, h)
		checkUndo(t, h, api.Edit{Del: 1, Ins: s})
		checkNothingToUndo(t, h)
		checkRedo(t, h, api.Edit{Del: n, Ins: "x"})
		checkNothingToRedo(t, h)
		checkState(t, "P5.3", h, state{"x", 3, 1, 0})
	}
}

func TestEditsThatUndoAndRedoReturn(t *testing.T) { // P5.3
	h := undo.New("abc")
	edits := []api.Edit{{At: 1, Del: 1, Ins: "xy"}, {Ins: "z"}, {At: 5, Ins: "!?"}, {At: 2, Del: 4}, {At: 3}, {Del: 3, Ins: "n\xffew"}}
	inverses := []api.Edit{{At: 1, Del: 2, Ins: "b"}, {Del: 1}, {At: 5, Del: 2}, {At: 2, Ins: "xyc!"}, {At: 3}, {Del: 4, Ins: "za?"}}
	texts := []string{"abc", "axyc", "zaxyc", "zaxyc!?", "za?", "za?", "n\xffew"}
	last := len(edits)
	for i, e := range edits {
		do(t, h, e)
		checkState(t, "P5.3", h, state{texts[i+1], i + 1, i + 1, 0})
	}
	version := last
	for range 3 {
		for i := last - 1; i >= 0; i-- {
			checkUndo(t, h, inverses[i])
			version++
			checkState(t, "P5.3", h, state{texts[i], version, i, last - i})
		}
		checkNothingToUndo(t, h)
		for i := range last {
			checkRedo(t, h, edits[i])
			version++
			checkState(t, "P5.3", h, state{texts[i+1], version, i + 1, last - i - 1})
		}
		checkNothingToRedo(t, h)
	}
}

func TestExampleOfTheChapter(t *testing.T) { // P5.3
	h := undo.New("abc")
	do(t, h, api.Edit{At: 1, Del: 1, Ins: "xy"}, api.Edit{Ins: "z"})
	checkState(t, "P5.3", h, state{"zaxyc", 2, 2, 0})
	checkUndo(t, h, api.Edit{Del: 1})
	checkUndo(t, h, api.Edit{At: 1, Del: 2, Ins: "b"})
	checkRedo(t, h, api.Edit{At: 1, Del: 1, Ins: "xy"})
	checkState(t, "P5.3", h, state{"axyc", 5, 1, 1})
}

// The limit holds for Do alone, so that every edit can be undone.
func TestUndoOfALongText(t *testing.T) { // P5.3
	for _, n := range []int{4001, 5000, 100000} {
		s := letters(n)
		h := undo.New(s)
		do(t, h, api.Edit{At: 3, Del: n - 4000}, api.Edit{Del: 10, Ins: "x"})
		checkUndo(t, h, api.Edit{Del: 1, Ins: (s[:3] + s[n-3997:])[:10]})
		checkUndo(t, h, api.Edit{At: 3, Ins: s[3 : n-3997]})
		checkState(t, "P5.3: a long text restored", h, state{s, 4, 0, 2})
		checkRefused(t, "a long text restored", h, api.Edit{At: 2}, api.ErrLimit)
		checkRedo(t, h, api.Edit{At: 3, Del: n - 4000})
		checkState(t, "P5.3: a long text shortened again", h, state{s[:3] + s[n-3997:], 5, 1, 1})
		checkUndo(t, h, api.Edit{At: 3, Ins: s[3 : n-3997]})
		do(t, h, api.Edit{Del: n})
		checkState(t, "P5.3: a long text deleted", h, state{"", 7, 1, 0})
		checkUndo(t, h, api.Edit{Ins: s})
		checkState(t, "P5.3: a long text restored", h, state{s, 8, 0, 1})
	}
}

func TestUndoRedoAndDoMixed(t *testing.T) { // P5.3
	h := undo.New("abc")
	do(t, h, api.Edit{At: 3, Ins: "d"}, api.Edit{At: 0, Del: 1}, api.Edit{At: 1, Del: 1, Ins: "XY"})
	checkState(t, "three edits", h, state{"bXYd", 3, 3, 0})
	checkUndo(t, h, api.Edit{At: 1, Del: 2, Ins: "c"})
	checkUndo(t, h, api.Edit{Ins: "a"})
	do(t, h, api.Edit{At: 2, Ins: "-"}) // in place of the two
	checkNothingToRedo(t, h)
	checkState(t, "another edit", h, state{"ab-cd", 6, 2, 0})
	checkUndo(t, h, api.Edit{At: 2, Del: 1})
	checkRedo(t, h, api.Edit{At: 2, Ins: "-"})
	checkUndo(t, h, api.Edit{At: 2, Del: 1})
	checkUndo(t, h, api.Edit{At: 3, Del: 1})
	checkNothingToUndo(t, h)
	checkRedo(t, h, api.Edit{At: 3, Ins: "d"})
	do(t, h, api.Edit{Del: 4})
	checkUndo(t, h, api.Edit{Ins: "abcd"})
	checkUndo(t, h, api.Edit{At: 3, Del: 1})
	checkRedo(t, h, api.Edit{At: 3, Ins: "d"})
	checkRedo(t, h, api.Edit{Del: 4})
	checkNothingToRedo(t, h)
	checkState(t, "all redone", h, state{"", 16, 2, 0})
}

// A history of many small edits is small, however long the text is.
func TestTextsAreNotKept(t *testing.T) { // section Ways
	h := undo.New(letters(4000))
	const count = 20000
	for i := range count {
		do(t, h, api.Edit{At: i % 4000, Del: 1, Ins: "x"})
	}
	for range count / 2 {
		h.Undo()
	}
	var memory runtime.MemStats
	runtime.GC()
	runtime.ReadMemStats(&memory)
	if limit := uint64(count * 4000 / 4); memory.HeapAlloc > limit {
		t.Errorf("%d bytes are in use behind %d edits of one byte", memory.HeapAlloc, count)
	}
	runtime.KeepAlive(h)
}
