package anchor_test

import (
	"math"
	"slices"
	"strings"
	"testing"

	"emendate/anchor"
	"emendate/api"
)

const most = 1000000 // the greatest offset, Del and length of Ins that the chapter allows

var sides = []bool{false, true}

// numbers is a fixed sequence of numbers that look random.
type numbers uint64

func (x *numbers) below(n int) int {
	*x = *x*6364136223846793005 + 1442695040888963407
	return int(uint64(*x) >> 33 % uint64(n))
}

// model moves an anchor byte by byte: first over the bytes that are deleted, then over those that are inserted.
func model(a api.Anchor, e api.Edit) api.Anchor {
	for range e.Del {
		if a.Offset > e.At {
			a.Offset--
		}
	}
	for i := range len(e.Ins) {
		if a.Offset > e.At+i || a.Offset == e.At+i && a.Right {
			a.Offset++
		}
	}
	return a
}

func edited(s string, e api.Edit) string { return s[:e.At] + e.Ins + s[e.At+e.Del:] }

func undoing(s string, e api.Edit) api.Edit {
	return api.Edit{At: e.At, Del: len(e.Ins), Ins: s[e.At : e.At+e.Del]}
}

// eachEdit calls f with every edit that fits the text s and inserts at most 3 bytes.
func eachEdit(s string, f func(e api.Edit)) {
	for at := range len(s) + 1 {
		for del := range len(s) - at + 1 {
			for n := range 4 {
				f(api.Edit{At: at, Del: del, Ins: "XYZ"[:n]})
			}
		}
	}
}

// byteBefore and byteAfter return the byte on one side of an offset, or the empty string at an end of the text.
func byteBefore(s string, offset int) string { return s[max(offset-1, 0):offset] }

func byteAfter(s string, offset int) string { return s[offset:min(offset+1, len(s))] }

func touches(offset int, e api.Edit) bool { return e.At <= offset && offset <= e.At+e.Del }

// checkMove requires the offset after the edit without Right, and with it.
func checkMove(t *testing.T, from int, e api.Edit, left, right int) {
	t.Helper()
	for _, want := range []api.Anchor{{Offset: left}, {Offset: right, Right: true}} {
		a := api.Anchor{Offset: from, Right: want.Right}
		if got := anchor.Move(a, e); got != want {
			t.Errorf("Move(%v) over %d bytes at %d replaced by %d: %v, want %v", a, e.Del, e.At, len(e.Ins), got, want)
		}
	}
}

func TestMoveOverAReplacement(t *testing.T) { // P2.1
	for _, c := range []struct {
		e    api.Edit
		want [][3]int // the offset before, and after without and with Right
	}{
		{api.Edit{At: 3, Del: 2, Ins: "abc"}, [][3]int{{0, 0, 0}, {2, 2, 2}, {3, 3, 6}, {4, 3, 6}, {5, 3, 6}, {6, 7, 7}, {50, 51, 51}}},
		{api.Edit{At: 3, Del: 4, Ins: "a"}, [][3]int{{0, 0, 0}, {2, 2, 2}, {3, 3, 4}, {4, 3, 4}, {6, 3, 4}, {7, 3, 4}, {8, 5, 5}, {50, 47, 47}}},
		{api.Edit{At: 3, Del: 2, Ins: "ab"}, [][3]int{{2, 2, 2}, {3, 3, 5}, {4, 3, 5}, {5, 3, 5}, {6, 6, 6}}},
		{api.Edit{At: 0, Del: 1, Ins: "ab"}, [][3]int{{0, 0, 2}, {1, 0, 2}, {2, 3, 3}}},
		{api.Edit{At: 3, Del: 1, Ins: "é\x00\n"}, [][3]int{{2, 2, 2}, {3, 3, 7}, {4, 3, 7}, {5, 8, 8}}}, // lengths count bytes
	} {
		for _, w := range c.want {
			checkMove(t, w[0], c.e, w[1], w[2])
		}
	}
}

func TestMoveOverAnInsertion(t *testing.T) { // P2.1
	for _, w := range [][3]int{{0, 0, 0}, {3, 3, 3}, {4, 4, 6}, {5, 7, 7}, {50, 52, 52}} {
		checkMove(t, w[0], api.Edit{At: 4, Ins: "xy"}, w[1], w[2])
	}
	for _, w := range [][3]int{{0, 0, 1}, {1, 2, 2}} {
		checkMove(t, w[0], api.Edit{Ins: "x"}, w[1], w[2])
	}
}

func TestMoveOverADeletion(t *testing.T) { // P2.1
	for _, w := range [][3]int{{0, 0, 0}, {3, 3, 3}, {4, 4, 4}, {5, 4, 4}, {6, 4, 4}, {7, 4, 4}, {8, 5, 5}, {50, 47, 47}} {
		checkMove(t, w[0], api.Edit{At: 4, Del: 3}, w[1], w[2])
	}
	for _, w := range [][3]int{{0, 0, 0}, {1, 0, 0}, {2, 1, 1}} {
		checkMove(t, w[0], api.Edit{Del: 1}, w[1], w[2])
	}
}

func TestMoveOverNothing(t *testing.T) { // P2.1, P2.3
	for _, at := range []int{0, 1, 4, most} {
		for _, from := range []int{0, 1, 2, 3, 4, 5, 50, most - 1, most} {
			checkMove(t, from, api.Edit{At: at}, from, from)
		}
	}
}

func TestMoveOfLargeOffsets(t *testing.T) { // P2.1
	long := strings.Repeat("x", most)
	for _, c := range []struct {
		from        int
		e           api.Edit
		left, right int
	}{
		{most, api.Edit{At: most, Del: most, Ins: long}, most, 2 * most},
		{most - 1, api.Edit{At: most, Del: most, Ins: long}, most - 1, most - 1},
		{most, api.Edit{At: most, Del: most}, most, most},
		{most, api.Edit{At: most, Ins: long}, most, 2 * most},
		{most, api.Edit{At: most - 1, Ins: long}, 2 * most, 2 * most},
		{most, api.Edit{Del: most, Ins: long}, 0, most},
		{0, api.Edit{Del: most, Ins: long}, 0, most},
		{most, api.Edit{Del: most}, 0, 0},
		{most, api.Edit{Del: most - 1}, 1, 1},
		{most, api.Edit{Del: most - 1, Ins: long}, most + 1, most + 1},
		{most, api.Edit{At: 1, Del: most}, 1, 1},
		{most, api.Edit{Ins: long}, 2 * most, 2 * most},
		{0, api.Edit{Ins: long}, 0, most},
		{0, api.Edit{At: most, Del: most, Ins: long}, 0, 0},
	} {
		checkMove(t, c.from, c.e, c.left, c.right)
	}
}

func TestMoveIsThatOfTheModel(t *testing.T) { // P2.1
	check := func(a api.Anchor, e api.Edit) {
		if got, want := anchor.Move(a, e), model(a, e); got != want {
			t.Fatalf("Move(%v) over %d bytes at %d replaced by %d: %v, want %v", a, e.Del, e.At, len(e.Ins), got, want)
		}
	}
	for _, right := range sides {
		for from := range 20 { // the offset may lie behind the text that the edit fits
			eachEdit("012345678", func(e api.Edit) { check(api.Anchor{Offset: from, Right: right}, e) })
		}
	}
	x := numbers(1)
	for range 2000 {
		a := api.Anchor{Offset: x.below(3000), Right: x.below(2) == 0}
		check(a, api.Edit{At: x.below(2000), Del: x.below(1000), Ins: strings.Repeat("x", x.below(1000))})
	}
}

func TestMoveAllOfNoAnchors(t *testing.T) { // P2.2
	for _, l := range [][]api.Anchor{nil, {}, make([]api.Anchor, 0, 4)} {
		for _, edits := range [][]api.Edit{nil, {}, {{At: 1, Del: 2, Ins: "x"}}, {{Ins: "x"}, {Del: 1}}} {
			if got := anchor.MoveAll(l, edits); len(got) != 0 {
				t.Errorf("MoveAll of no anchors over %v: %v", edits, got)
			}
		}
	}
}

func TestMoveAllOverNoEdits(t *testing.T) { // P2.2
	l := []api.Anchor{{Offset: 7}, {Offset: 0, Right: true}, {Offset: most}, {Offset: 7}}
	for _, edits := range [][]api.Edit{nil, {}} {
		if got := anchor.MoveAll(l, edits); !slices.Equal(got, l) {
			t.Errorf("MoveAll over no edits: %v, want %v", got, l)
		}
	}
}

func TestMoveAllOverSeveralEdits(t *testing.T) { // P2.2
	l := []api.Anchor{{Offset: 9}, {Offset: 2, Right: true}, {Offset: 0}, {Offset: 2}, {Offset: 9}, {Offset: 3, Right: true}}
	before := slices.Clone(l)
	insert, remove := api.Edit{At: 2, Ins: "abc"}, api.Edit{At: 1, Del: 4}
	for _, c := range []struct {
		edits []api.Edit
		want  []int
	}{
		{[]api.Edit{insert}, []int{12, 5, 0, 2, 12, 6}},
		{[]api.Edit{insert, remove}, []int{8, 1, 0, 1, 8, 2}},
		{[]api.Edit{remove, insert}, []int{8, 1, 0, 1, 8, 1}}, // in the other order, the result is another one
		{[]api.Edit{insert, insert, remove}, []int{11, 4, 0, 1, 11, 5}},
	} {
		got := anchor.MoveAll(l, c.edits)
		want := slices.Clone(before)
		for i := range want {
			want[i].Offset = c.want[i]
		}
		if !slices.Equal(got, want) {
			t.Errorf("MoveAll over %v: %v, want %v", c.edits, got, want)
		}
	}
}

func TestMoveAllMovesEachAnchorByItself(t *testing.T) { // P2.2
	x := numbers(2)
	for range 500 {
		l, edits := make([]api.Anchor, x.below(8)), make([]api.Edit, x.below(8))
		for i := range l {
			l[i] = api.Anchor{Offset: x.below(most + 1), Right: x.below(2) == 0}
		}
		for i := range edits {
			edits[i] = api.Edit{At: x.below(most + 1), Del: x.below(most + 1), Ins: strings.Repeat("x", x.below(3)*x.below(1000))}
		}
		got := anchor.MoveAll(l, edits)
		if len(got) != len(l) {
			t.Fatalf("%d anchors, want %d", len(got), len(l))
		}
		for i, a := range l {
			for _, e := range edits {
				a = anchor.Move(a, e)
			}
			if got[i] != a {
				t.Fatalf("anchor %d: %v, want %v", i, got[i], a)
			}
		}
	}
}

func TestMoveAllBeyondTheGreatestOffset(t *testing.T) { // P2.2: only the arguments are bounded
	insert := api.Edit{Ins: strings.Repeat("x", most)}
	got := anchor.MoveAll([]api.Anchor{{Offset: most}, {Offset: 0}}, []api.Edit{insert, insert, insert, {At: most, Del: most}})
	if !slices.Equal(got, []api.Anchor{{Offset: 3 * most}, {Offset: 0}}) {
		t.Errorf("MoveAll over long insertions: %v", got)
	}
}

func TestMoveAllLeavesItsArguments(t *testing.T) { // P2.2
	room := []api.Anchor{{Offset: 1}, {Offset: 5, Right: true}, {Offset: 9}, {Offset: 77}}
	edits := []api.Edit{{At: 0, Del: 2, Ins: "abcde"}, {At: 3, Ins: "x"}, {At: 9, Del: 9, Ins: "y"}}
	roomBefore, editsBefore := slices.Clone(room), slices.Clone(edits)
	for _, l := range [][]api.Anchor{room, room[:3], room[:0]} {
		for n := range len(edits) + 1 {
			got := anchor.MoveAll(l, edits[:n])
			if !slices.Equal(room, roomBefore) || !slices.Equal(edits, editsBefore) {
				t.Fatalf("the arguments became %v and %v", room, edits)
			}
			for i := range got[:cap(got)] { // the result is memory of its own
				got[:cap(got)][i].Offset = -1
			}
			if !slices.Equal(room, roomBefore) {
				t.Fatalf("the result of %d anchors and %d edits shares memory with the argument", len(l), n)
			}
		}
	}
}

func TestAnchorsStayInsideTheText(t *testing.T) { // P2.3
	s := "abcdefg"
	eachEdit(s, func(e api.Edit) {
		for _, right := range sides {
			for from := range len(s) + 1 {
				a := anchor.Move(api.Anchor{Offset: from, Right: right}, e)
				if a.Offset < 0 || a.Offset > len(edited(s, e)) || a.Right != right {
					t.Errorf("an anchor at %d of %q is moved over %v to %v", from, s, e, a)
				}
			}
		}
	})
}

// TestBytesBesideAnchors compares the bytes on both sides of anchors outside the range, and on the outer side of anchors at its ends that do not turn inwards.
func TestBytesBesideAnchors(t *testing.T) { // P2.3
	s := "abcdefg"
	eachEdit(s, func(e api.Edit) {
		r := edited(s, e)
		for _, right := range sides {
			for from := range len(s) + 1 {
				to := anchor.Move(api.Anchor{Offset: from, Right: right}, e).Offset
				out := !touches(from, e)
				if (out || from == e.At && !right) && byteBefore(r, to) != byteBefore(s, from) {
					t.Errorf("%v: the byte before the anchor at %d of %q, now at %d of %q, is another one", e, from, s, to, r)
				}
				if (out || from == e.At+e.Del && right) && byteAfter(r, to) != byteAfter(s, from) {
					t.Errorf("%v: the byte after the anchor at %d of %q, now at %d of %q, is another one", e, from, s, to, r)
				}
			}
		}
	})
}

func TestAnchorsKeepTheirOrder(t *testing.T) { // P2.3
	s := "abcdefg"
	eachEdit(s, func(e api.Edit) {
		for _, right := range [][2]bool{{false, false}, {false, true}, {true, true}} {
			for first := range len(s) + 1 {
				for second := first; second <= len(s); second++ {
					a := anchor.Move(api.Anchor{Offset: first, Right: right[0]}, e)
					b := anchor.Move(api.Anchor{Offset: second, Right: right[1]}, e)
					if a.Offset > b.Offset {
						t.Errorf("%v: the anchors at %d and %d are moved to %v and %v", e, first, second, a, b)
					}
				}
			}
		}
	})
}

func TestUndoMovesAnchorsBack(t *testing.T) { // P2.3
	s := "abcdefg"
	eachEdit(s, func(e api.Edit) {
		back := undoing(s, e)
		if edited(edited(s, e), back) != s {
			t.Fatalf("%v does not undo %v", back, e)
		}
		for _, right := range sides {
			for from := range len(s) + 1 {
				a := api.Anchor{Offset: from, Right: right}
				got := anchor.MoveAll([]api.Anchor{a}, []api.Edit{e, back})
				if !touches(from, e) && (len(got) != 1 || got[0] != a) {
					t.Errorf("%v is moved over %v and back to %v", a, e, got)
				}
			}
		}
	})
}

// Nothing is promised of the results for invalid arguments, but that there are some.
func TestNoPanicForInvalidArguments(t *testing.T) { // P2.1, P2.2
	odd := []int{math.MinInt, -1, 0, most + 1, math.MaxInt}
	for _, offset := range odd {
		for _, at := range odd {
			for _, del := range odd {
				a, e := api.Anchor{Offset: offset, Right: true}, api.Edit{At: at, Del: del, Ins: "x"}
				if !anchor.Move(a, e).Right || len(anchor.MoveAll([]api.Anchor{a, {}}, []api.Edit{e, e})) != 2 {
					t.Errorf("an anchor at %d is lost over %d bytes at %d", offset, del, at)
				}
			}
		}
	}
}
