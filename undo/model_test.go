package undo_test

import (
	"slices"
	"strings"
	"testing"

	"emendate/api"
	"emendate/undo"
)

// model keeps all texts between the edits, the current one at index now.
type model struct {
	texts        []string
	edits        []api.Edit // edits[i] leads from texts[i] to texts[i+1]
	now, version int
}

func newModel(s string) *model { return &model{texts: []string{s}} }

func (m *model) state() state {
	return state{m.texts[m.now], m.version, m.now, len(m.edits) - m.now}
}

// edited applies an edit that fits.
func edited(s string, e api.Edit) string { return s[:e.At] + e.Ins + s[e.At+e.Del:] }

// do performs an edit that fits the text.
func (m *model) do(e api.Edit) api.Errno {
	text := edited(m.texts[m.now], e)
	if len(text) > 4000 {
		return api.ErrLimit
	}
	m.texts = append(slices.Clone(m.texts[:m.now+1]), text)
	m.edits = append(slices.Clone(m.edits[:m.now]), e)
	m.now++
	m.version++
	return api.OK
}

func (m *model) undo() (api.Edit, api.Errno) {
	if m.now == 0 {
		return api.Edit{}, api.ErrState
	}
	m.now--
	m.version++
	e := m.edits[m.now]
	return api.Edit{At: e.At, Del: len(e.Ins), Ins: m.texts[m.now][e.At : e.At+e.Del]}, api.OK
}

func (m *model) redo() (api.Edit, api.Errno) {
	if m.now == len(m.edits) {
		return api.Edit{}, api.ErrState
	}
	m.now++
	m.version++
	return m.edits[m.now-1], api.OK
}

// numbers is a fixed sequence of numbers that look random.
type numbers uint64

func (x *numbers) below(n int) int {
	*x = *x*6364136223846793005 + 1442695040888963407
	return int(uint64(*x) >> 33 % uint64(n))
}

// someEdit returns an edit that fits a text of n bytes.
func someEdit(x *numbers, n int) api.Edit {
	at := x.below(n + 1)
	ins := strings.Repeat(string(rune('A'+x.below(26))), x.below(4))
	return api.Edit{At: at, Del: x.below(min(n-at, 5) + 1), Ins: ins}
}

// step makes the same call, which is often a Do and sometimes an invalid one, to the history and the model.
func step(t *testing.T, x *numbers, h *undo.History, m *model) {
	t.Helper()
	switch x.below(10) {
	case 0, 1, 2:
		turn(t, h, h.Undo, m.undo)
	case 3, 4:
		turn(t, h, h.Redo, m.redo)
	case 5:
		bad := misfits(len(h.Text()))
		checkRefused(t, "a misfit", h, bad[x.below(len(bad))], api.ErrRange)
	case 6:
		checkRefused(t, "too long", h, api.Edit{At: len(h.Text()), Ins: letters(4001 - len(h.Text()))}, api.ErrLimit)
	default:
		e := someEdit(x, len(h.Text()))
		want := m.do(e)
		if err := h.Do(e); err != want {
			t.Fatalf("P5.2: Do(%v): error %d, want %d", e, err, want)
		}
	}
	checkState(t, "P5.1: behind a call", h, m.state())
}

// turn compares an Undo or Redo with that of the model, and its edit with its effect.
func turn(t *testing.T, h *undo.History, call, model func() (api.Edit, api.Errno)) {
	t.Helper()
	text := h.Text()
	e, err := call()
	want, wantErr := model()
	if e != want || err != wantErr {
		t.Fatalf("P5.3: %v, error %d, want %v, error %d", e, err, want, wantErr)
	}
	if got := edited(text, e); got != h.Text() {
		t.Fatalf("P5.4: the returned edit %v leads from %q to %q, but the text is %q", e, text, got, h.Text())
	}
}

func TestManyCalls(t *testing.T) { // P5.1, P5.2, P5.3, P5.4
	for seed := range 20 {
		x := numbers(seed)
		s := letters(seed * 10)
		h, m := undo.New(s), newModel(s)
		for range 1000 {
			step(t, &x, h, m)
		}
	}
}

// Here the limit is near, so that many edits exceed it.
func TestManyCallsNearTheLimit(t *testing.T) { // P5.1, P5.2, P5.3, P5.4
	refused := 0
	for seed, n := range []int{3990, 3999, 4000, 4001, 4005, 4100} {
		x := numbers(seed)
		s := letters(n)
		h, m := undo.New(s), newModel(s)
		for range 300 {
			before := m.version
			at := x.below(len(h.Text()) + 1)
			e := api.Edit{At: at, Del: x.below(min(len(h.Text())-at, 12) + 1), Ins: letters(x.below(12))}
			if err, want := h.Do(e), m.do(e); err != want {
				t.Fatalf("P5.2: Do(%v) at %d bytes: error %d, want %d", e, len(h.Text()), err, want)
			}
			if m.version == before {
				refused++
			}
			checkState(t, "P5.2: near the limit", h, m.state())
			if x.below(3) == 0 {
				turn(t, h, h.Undo, m.undo)
			}
			if x.below(4) == 0 {
				turn(t, h, h.Redo, m.redo)
			}
			checkState(t, "P5.3: near the limit", h, m.state())
		}
	}
	if refused < 100 {
		t.Errorf("only %d edits were too long", refused)
	}
}

// eachEdit calls f with every edit that fits a text of n bytes and inserts at most 3 bytes.
func eachEdit(n int, f func(e api.Edit)) {
	for at := range n + 1 {
		for del := range n - at + 1 {
			for ins := range 4 {
				f(api.Edit{At: at, Del: del, Ins: "XYZ"[:ins]})
			}
		}
	}
}

func TestUndoAndRedoOfEachPairOfEdits(t *testing.T) { // P5.3, P5.4
	for _, s := range []string{"", "a", "abc"} {
		eachEdit(len(s), func(a api.Edit) {
			eachEdit(len(edited(s, a)), func(b api.Edit) {
				h, m := undo.New(s), newModel(s)
				do(t, h, a, b)
				m.do(a)
				m.do(b)
				for range 2 {
					for range 2 {
						turn(t, h, h.Undo, m.undo)
						checkState(t, "P5.4: behind Undo", h, m.state())
						turn(t, h, h.Redo, m.redo)
						checkState(t, "P5.4: behind Redo", h, m.state())
						turn(t, h, h.Undo, m.undo)
					}
					checkState(t, "P5.4: all undone", h, state{s, m.version, 0, 2})
					turn(t, h, h.Redo, m.redo)
					turn(t, h, h.Redo, m.redo)
					checkState(t, "P5.4: all redone", h, state{edited(edited(s, a), b), m.version, 2, 0})
				}
			})
		})
	}
}

func TestUndoingAndRedoingEverything(t *testing.T) { // P5.4
	for seed := range 10 {
		x := numbers(seed)
		first := letters(seed * 30)
		h := undo.New(first)
		texts := []string{first}
		for range 200 {
			do(t, h, someEdit(&x, len(h.Text())))
			texts = append(texts, h.Text())
		}
		for range 2 {
			for i := 199; i >= 0; i-- {
				if _, err := h.Undo(); h.Text() != texts[i] || err != api.OK {
					t.Fatalf("P5.4: %q behind Undo, error %d, want %q", h.Text(), err, texts[i])
				}
			}
			checkNothingToUndo(t, h)
			for i := range 200 {
				if _, err := h.Redo(); h.Text() != texts[i+1] || err != api.OK {
					t.Fatalf("P5.4: %q behind Redo, error %d, want %q", h.Text(), err, texts[i+1])
				}
			}
			checkNothingToRedo(t, h)
		}
	}
}

func TestAsIfUndoneEditsWereNeverDone(t *testing.T) { // P5.4
	for count := range 12 {
		for undone := range count + 1 {
			x := numbers(count*100 + undone)
			h, plain := undo.New("abcdef"), undo.New("abcdef")
			for i := range count {
				e := someEdit(&x, len(h.Text()))
				do(t, h, e)
				if i < count-undone {
					do(t, plain, e)
				}
			}
			for range undone {
				h.Undo()
			}
			for range 3 {
				e := someEdit(&x, len(h.Text()))
				do(t, h, e)
				do(t, plain, e)
				if h.Text() != plain.Text() {
					t.Fatalf("P5.4: %q with %d of %d edits undone, %q without them", h.Text(), undone, count, plain.Text())
				}
			}
			checkSameUndos(t, h, plain)
		}
	}
}

// checkSameUndos undoes everything in both histories.
func checkSameUndos(t *testing.T, h, plain *undo.History) {
	t.Helper()
	for range 20 { // more than there are edits
		e, err := h.Undo()
		want, wantErr := plain.Undo()
		if e != want || err != wantErr || h.Text() != plain.Text() {
			t.Fatalf("P5.4: Undo: %v, error %d, to %q, want %v, error %d, to %q", e, err, h.Text(), want, wantErr, plain.Text())
		}
	}
	checkNothingToUndo(t, h)
}

func TestHistoriesDoNotShareState(t *testing.T) { // P5.4
	const s = "abcdef"
	var l []*undo.History
	var models []*model
	for range 4 {
		l = append(l, undo.New(s))
		models = append(models, newModel(s))
	}
	x := numbers(7)
	for range 3000 {
		i := x.below(3)
		step(t, &x, l[i], models[i])
		for k, h := range l {
			checkState(t, "P5.4: one of several histories", h, models[k].state())
		}
	}
	checkState(t, "P5.4: the history that was left alone", l[3], state{text: s})
	checkNothingToUndo(t, l[3])
	checkNothingToRedo(t, l[3])
}
