package textedit_test

import (
	"math"
	"slices"
	"strings"
	"testing"

	"emendate/api"
	"emendate/textedit"
)

// numbers is a fixed sequence of numbers that look random.
type numbers uint64

func (x *numbers) below(n int) int {
	*x = *x*6364136223846793005 + 1442695040888963407
	return int(uint64(*x) >> 33 % uint64(n))
}

// model builds the edited string byte by byte.
func model(s string, e api.Edit) string {
	var b []byte
	for i := range len(s) + 1 {
		if i == e.At {
			b = append(b, e.Ins...)
		}
		if i < len(s) && (i < e.At || i >= e.At+e.Del) {
			b = append(b, s[i])
		}
	}
	return string(b)
}

// modelAll returns the strings before, between and after the edits.
func modelAll(s string, l []api.Edit) []string {
	states := []string{s}
	for _, e := range l {
		s = model(s, e)
		states = append(states, s)
	}
	return states
}

// eachEdit calls f with every edit that fits a string of n bytes and inserts at most 3 bytes.
func eachEdit(n int, f func(e api.Edit)) {
	for at := range n + 1 {
		for del := range n - at + 1 {
			for ins := range 4 {
				f(api.Edit{At: at, Del: del, Ins: "XYZ"[:ins]})
			}
		}
	}
}

// someEdits returns fitting edits in sequence.
func someEdits(x *numbers, s string, count int) []api.Edit {
	l := make([]api.Edit, count)
	n := len(s)
	for i := range l {
		at := x.below(n + 1)
		del := x.below(min(n-at, 5) + 1)
		ins := strings.Repeat(string(rune('A'+i%26)), x.below(4))
		l[i] = api.Edit{At: at, Del: del, Ins: ins}
		n += len(ins) - del
	}
	return l
}

// misfits returns edits that do not fit a string of n bytes.
func misfits(n int) []api.Edit {
	l := []api.Edit{
		{At: n + 1},
		{At: n + 1, Ins: "x"},
		{At: n, Del: 1},
		{At: 0, Del: n + 1, Ins: "x"},
		{At: n + 1, Del: -1},
		{At: n, Del: -1, Ins: "x"},
		{At: -1},
		{At: -1, Ins: "x"},
		{At: -1, Del: 1},
		{At: -1, Del: n + 1},
		{At: 0, Del: -1},
		{At: -2, Del: -3, Ins: "x"},
	}
	for _, large := range []int{math.MinInt, math.MinInt + 1, 1 << 31, 1 << 32, 1 << 62, math.MaxInt - 1, math.MaxInt} {
		l = append(l, api.Edit{At: large, Ins: "x"}, api.Edit{Del: large}, api.Edit{At: large, Del: large}, api.Edit{At: 1, Del: large},
			api.Edit{At: large, Del: 1}, api.Edit{At: large, Del: -large}, api.Edit{At: math.MaxInt, Del: large}, api.Edit{At: math.MinInt, Del: large})
	}
	return l
}

var texts = []string{"", "a", "abcdef", "é\x00\n\xff", strings.Repeat("long ", 100)}

func TestApply(t *testing.T) { // P3.1
	for _, c := range []struct {
		s    string
		e    api.Edit
		want string
	}{
		{"abcdef", api.Edit{At: 2, Del: 3, Ins: "X"}, "abXf"},
		{"abcdef", api.Edit{At: 0, Del: 0, Ins: "X"}, "Xabcdef"},
		{"abcdef", api.Edit{At: 0, Del: 2, Ins: "X"}, "Xcdef"},
		{"abcdef", api.Edit{At: 6, Del: 0, Ins: "X"}, "abcdefX"},
		{"abcdef", api.Edit{At: 5, Del: 1, Ins: "XY"}, "abcdeXY"},
		{"abcdef", api.Edit{At: 3, Del: 0, Ins: "XY"}, "abcXYdef"},
		{"abcdef", api.Edit{At: 3, Del: 2, Ins: ""}, "abcf"},
		{"abcdef", api.Edit{At: 3, Del: 0, Ins: ""}, "abcdef"},
		{"abcdef", api.Edit{At: 6, Del: 0, Ins: ""}, "abcdef"},
		{"abcdef", api.Edit{At: 0, Del: 6, Ins: "new"}, "new"},
		{"abcdef", api.Edit{At: 0, Del: 6, Ins: ""}, ""},
		{"", api.Edit{}, ""},
		{"", api.Edit{Ins: "new"}, "new"},
		{"aéb", api.Edit{At: 2, Del: 1, Ins: "\x00\xff"}, "a\xc3\x00\xffb"}, // offsets count bytes
	} {
		if got, err := textedit.Apply(c.s, c.e); got != c.want || err != api.OK {
			t.Errorf("Apply(%q, %v): %q, error %d, want %q", c.s, c.e, got, err, c.want)
		}
	}
}

func TestApplyIsThatOfTheModel(t *testing.T) { // P3.1
	for _, s := range texts[:4] {
		eachEdit(len(s), func(e api.Edit) {
			if got, err := textedit.Apply(s, e); got != model(s, e) || err != api.OK {
				t.Errorf("Apply(%q, %v): %q, error %d, want %q", s, e, got, err, model(s, e))
			}
		})
	}
}

func TestApplyRefusesWhatDoesNotFit(t *testing.T) { // P3.1
	for _, s := range texts {
		for _, e := range misfits(len(s)) {
			if got, err := textedit.Apply(s, e); got != "" || err != api.ErrRange {
				t.Errorf("Apply(%.9q, %v): %q, error %d, want ErrRange", s, e, got, err)
			}
		}
	}
}

func TestApplyAll(t *testing.T) { // P3.1
	for _, c := range []struct {
		s    string
		l    []api.Edit
		want string
	}{
		{"abc", nil, "abc"},
		{"", []api.Edit{}, ""},
		{"abc", []api.Edit{{At: 1, Del: 1, Ins: "XY"}}, "aXYc"},
		{"abc", []api.Edit{{At: 1, Del: 1}, {At: 2, Ins: "d"}}, "acd"},
		{"abc", []api.Edit{{At: 3, Ins: "defg"}, {At: 5, Del: 2}}, "abcde"}, // the second one does not fit abc
		{"abc", []api.Edit{{Ins: "X"}, {Ins: "Y"}, {At: 2, Ins: "Z"}}, "YXZabc"},
		{"abc", []api.Edit{{Del: 3}, {Ins: "new"}, {At: 1, Del: 1}}, "nw"},
	} {
		if got, err := textedit.ApplyAll(c.s, c.l); got != c.want || err != api.OK {
			t.Errorf("ApplyAll(%q, %v): %q, error %d, want %q", c.s, c.l, got, err, c.want)
		}
	}
}

func TestApplyAllIsThatOfTheModel(t *testing.T) { // P3.1
	x := numbers(1)
	for i := range 500 {
		s := "abcdefghijklmnopqrstuvwxyz"[:x.below(27)]
		l := someEdits(&x, s, i%12)
		want := modelAll(s, l)[len(l)]
		if got, err := textedit.ApplyAll(s, l); got != want || err != api.OK {
			t.Fatalf("ApplyAll(%q, %v): %q, error %d, want %q", s, l, got, err, want)
		}
	}
}

// badLists returns lists with an edit that does not fit abc, at the start, in the middle and at the end.
func badLists() [][]api.Edit {
	lists := [][]api.Edit{
		{{Del: 3}, {At: 1}},                     // fits abc, but not what the first edit leaves
		{{Del: 3}, {Del: 1}, {Ins: "x"}},        // in the middle
		{{Del: 1}, {At: 0, Del: 3}, {Del: 1}},   // the last one fits abc
		{{Ins: "x"}, {At: 5, Del: 0}, {Del: 1}}, // one beyond the end
		{{At: 4}},
		{{At: 2, Del: 2}, {Ins: "x"}},
	}
	good := []api.Edit{{At: 1, Del: 1, Ins: "X"}, {At: 3, Ins: ""}, {At: 0, Del: 1, Ins: "Y"}} // the length stays 3
	for _, e := range misfits(3) {
		for i := range len(good) + 1 {
			lists = append(lists, slices.Insert(slices.Clone(good), i, e))
		}
	}
	return lists
}

func TestApplyAllRefusesWhatDoesNotFit(t *testing.T) { // P3.1
	for _, l := range badLists() {
		if got, err := textedit.ApplyAll("abc", l); got != "" || err != api.ErrRange {
			t.Errorf("ApplyAll(abc, %v): %q, error %d, want ErrRange", l, got, err)
		}
	}
}

func TestInvert(t *testing.T) { // P3.2
	for _, c := range []struct {
		s       string
		e, want api.Edit
	}{
		{"abcdef", api.Edit{At: 2, Del: 3, Ins: "X"}, api.Edit{At: 2, Del: 1, Ins: "cde"}},
		{"abcdef", api.Edit{At: 2, Del: 3}, api.Edit{At: 2, Ins: "cde"}},
		{"abcdef", api.Edit{At: 2, Ins: "XYZ"}, api.Edit{At: 2, Del: 3}},
		{"abcdef", api.Edit{At: 2}, api.Edit{At: 2}},
		{"abcdef", api.Edit{At: 6, Ins: "X"}, api.Edit{At: 6, Del: 1}},
		{"abcdef", api.Edit{Del: 6, Ins: "new"}, api.Edit{Del: 3, Ins: "abcdef"}},
		{"", api.Edit{}, api.Edit{}},
		{"", api.Edit{Ins: "é"}, api.Edit{Del: 2}},
	} {
		if got, err := textedit.Invert(c.s, c.e); got != c.want || err != api.OK {
			t.Errorf("Invert(%q, %v): %v, error %d, want %v", c.s, c.e, got, err, c.want)
		}
	}
}

func TestInvertRefusesWhatDoesNotFit(t *testing.T) { // P3.2
	for _, s := range texts {
		for _, e := range misfits(len(s)) {
			if got, err := textedit.Invert(s, e); got != (api.Edit{}) || err != api.ErrRange {
				t.Errorf("Invert(%.9q, %v): %v, error %d, want ErrRange", s, e, got, err)
			}
		}
	}
}

func TestInvertAll(t *testing.T) { // P3.2
	for _, c := range []struct {
		s       string
		l, want []api.Edit
	}{
		{"abc", nil, nil},
		{"", []api.Edit{}, nil},
		{"abcdef", []api.Edit{{At: 2, Del: 3, Ins: "X"}}, []api.Edit{{At: 2, Del: 1, Ins: "cde"}}},
		{"abc", []api.Edit{{At: 1, Del: 1}, {At: 2, Ins: "d"}}, []api.Edit{{At: 2, Del: 1}, {At: 1, Ins: "b"}}},
		{"abc", []api.Edit{{At: 1, Ins: "XY"}, {Del: 2, Ins: "-"}, {At: 1, Del: 3}}, []api.Edit{{At: 1, Ins: "Ybc"}, {Del: 1, Ins: "aX"}, {At: 1, Del: 2}}},
		{"abc", []api.Edit{{}, {At: 3}, {At: 1}}, []api.Edit{{At: 1}, {At: 3}, {}}},
	} {
		if got, err := textedit.InvertAll(c.s, c.l); !slices.Equal(got, c.want) || err != api.OK {
			t.Errorf("InvertAll(%q, %v): %v, error %d, want %v", c.s, c.l, got, err, c.want)
		}
	}
}

func TestInvertAllRefusesWhatDoesNotFit(t *testing.T) { // P3.2
	for _, l := range badLists() {
		if got, err := textedit.InvertAll("abc", l); len(got) != 0 || err != api.ErrRange {
			t.Errorf("InvertAll(abc, %v): %v, error %d, want ErrRange", l, got, err)
		}
	}
}

func TestInverseRestores(t *testing.T) { // P3.5
	for _, s := range texts[:4] {
		eachEdit(len(s), func(e api.Edit) {
			edited, err1 := textedit.Apply(s, e)
			inverse, err2 := textedit.Invert(s, e)
			back, err3 := textedit.Apply(edited, inverse)
			if back != s || err1 != api.OK || err2 != api.OK || err3 != api.OK {
				t.Errorf("%q becomes %q by %v and %q by %v, errors %d, %d, %d", s, edited, e, back, inverse, err1, err2, err3)
			}
		})
	}
}

func TestInverseListRestores(t *testing.T) { // P3.2, P3.5
	x := numbers(2)
	for i := range 500 {
		s := "abcdefghijklmnopqrstuvwxyz"[:x.below(27)]
		l := someEdits(&x, s, i%12)
		states := modelAll(s, l)
		inverses, err := textedit.InvertAll(s, l)
		if len(inverses) != len(l) || err != api.OK {
			t.Fatalf("InvertAll(%q, %v): %v, error %d", s, l, inverses, err)
		}
		text := states[len(l)]
		for k, e := range inverses { // each inverse undoes its own edit
			text = model(text, e)
			if undone := len(l) - 1 - k; text != states[undone] || e.At != l[undone].At || e.Del != len(l[undone].Ins) {
				t.Fatalf("%v of %q: %v leads to %q, want %q", l, s, inverses[:k+1], text, states[undone])
			}
		}
	}
}

func TestListsAreLeftAsTheyAre(t *testing.T) { // P3.1, P3.2, P3.3
	room := []api.Edit{{At: 1, Del: 1, Ins: "XY"}, {At: 3, Ins: "z"}, {At: 0, Del: 2}, {At: 9, Del: 9, Ins: "bad"}}
	before := slices.Clone(room)
	for n := range len(room) + 1 {
		l := room[:n]
		textedit.ApplyAll("abc", l)
		textedit.Compose("abc", l)
		inverses, _ := textedit.InvertAll("abc", l)
		for i := range inverses[:cap(inverses)] { // the result is memory of its own
			inverses[:cap(inverses)][i].At = -1
		}
		if !slices.Equal(room, before) {
			t.Fatalf("%d edits: the list became %v", n, room)
		}
	}
}
