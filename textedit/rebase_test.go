package textedit_test

import (
	"math"
	"testing"

	"emendate/api"
	"emendate/textedit"
)

const farthest = 1<<31 - 1 // the greatest end of a range that the chapter allows

// checkRebase requires that a is moved to offset at by b.
func checkRebase(t *testing.T, a, b api.Edit, at int) {
	t.Helper()
	want := api.Edit{At: at, Del: a.Del, Ins: a.Ins}
	if got, ok := textedit.Rebase(a, b); got != want || !ok {
		t.Errorf("Rebase(%v, %v): %v, %t, want %v", a, b, got, ok, want)
	}
}

func checkNoRebase(t *testing.T, a, b api.Edit) {
	t.Helper()
	if got, ok := textedit.Rebase(a, b); got != (api.Edit{}) || ok {
		t.Errorf("Rebase(%v, %v): %v, %t, want false", a, b, got, ok)
	}
}

func TestRebase(t *testing.T) { // P3.4
	for _, c := range []struct {
		what string
		a, b api.Edit
		at   int
	}{
		{"b before a", api.Edit{At: 3, Del: 1, Ins: "z"}, api.Edit{Del: 2, Ins: "pqr"}, 4},
		{"an insertion before a", api.Edit{At: 3, Del: 1, Ins: "z"}, api.Edit{At: 1, Ins: "pqr"}, 6},
		{"a deletion before a", api.Edit{At: 3, Del: 1, Ins: "z"}, api.Edit{At: 1, Del: 1}, 2},
		{"an insertion before an insertion", api.Edit{At: 3, Ins: "z"}, api.Edit{At: 2, Ins: "pq"}, 5},
		{"a deletion before an insertion", api.Edit{At: 3, Ins: "z"}, api.Edit{Del: 2}, 1},
		{"a deletion before a deletion", api.Edit{At: 3, Del: 2}, api.Edit{Del: 2}, 1},
		{"nothing before a", api.Edit{At: 3, Del: 1}, api.Edit{}, 3},

		{"b up to a", api.Edit{At: 3, Del: 1, Ins: "z"}, api.Edit{At: 1, Del: 2, Ins: "p"}, 2},
		{"an insertion at a", api.Edit{At: 3, Del: 1, Ins: "z"}, api.Edit{At: 3, Ins: "pqr"}, 6},
		{"a deletion up to a", api.Edit{At: 3, Del: 1}, api.Edit{Del: 3}, 0},
		{"a deletion up to an insertion", api.Edit{At: 3, Ins: "z"}, api.Edit{At: 2, Del: 1}, 2},

		{"b from the end of a on", api.Edit{At: 1, Del: 2, Ins: "z"}, api.Edit{At: 3, Del: 1, Ins: "pqr"}, 1},
		{"an insertion at the end of a", api.Edit{At: 1, Del: 2, Ins: "z"}, api.Edit{At: 3, Ins: "pqr"}, 1},
		{"a deletion from the end of a on", api.Edit{At: 1, Del: 2}, api.Edit{At: 3, Del: 4}, 1},
		{"a deletion behind an insertion", api.Edit{At: 2, Ins: "z"}, api.Edit{At: 2, Del: 1}, 2},
		{"a replacement behind an insertion", api.Edit{At: 2, Ins: "a"}, api.Edit{At: 2, Del: 1, Ins: "bb"}, 2},

		{"b behind a", api.Edit{At: 1, Del: 1}, api.Edit{At: 5, Del: 1, Ins: "q"}, 1},
		{"an insertion behind a", api.Edit{At: 1, Del: 1}, api.Edit{At: 3, Ins: "q"}, 1},
		{"a deletion behind a", api.Edit{At: 1, Del: 1, Ins: "z"}, api.Edit{At: 3, Del: 9}, 1},
		{"an insertion behind an insertion", api.Edit{At: 1, Ins: "z"}, api.Edit{At: 2, Ins: "q"}, 1},

		{"two insertions at the same offset", api.Edit{At: 2, Ins: "a"}, api.Edit{At: 2, Ins: "bb"}, 4},
		{"two insertions at the start", api.Edit{Ins: "aaa"}, api.Edit{Ins: "b"}, 1},
		{"nothing at the offset of an insertion", api.Edit{At: 2}, api.Edit{At: 2, Ins: "bb"}, 4},
		{"an insertion at the offset of nothing", api.Edit{At: 2, Ins: "a"}, api.Edit{At: 2}, 2},
	} {
		t.Run(c.what, func(t *testing.T) { checkRebase(t, c.a, c.b, c.at) })
	}
}

func TestRebaseOfOverlappingEdits(t *testing.T) { // P3.4
	for _, c := range []struct {
		what string
		a, b api.Edit
	}{
		{"the same range", api.Edit{At: 2, Del: 2, Ins: "a"}, api.Edit{At: 2, Del: 2, Ins: "a"}},
		{"the same byte", api.Edit{Del: 1}, api.Edit{Del: 1}},
		{"inside, at the end", api.Edit{At: 2, Del: 2}, api.Edit{At: 3, Del: 1}},
		{"inside, at the start", api.Edit{At: 2, Del: 2}, api.Edit{At: 2, Del: 1, Ins: "b"}},
		{"inside", api.Edit{At: 2, Del: 3, Ins: "a"}, api.Edit{At: 3, Del: 1, Ins: "b"}},
		{"crossing", api.Edit{At: 2, Del: 3}, api.Edit{At: 4, Del: 3}},
		{"an insertion inside a deletion", api.Edit{At: 2, Ins: "a"}, api.Edit{At: 1, Del: 2}},
		{"nothing inside a replacement", api.Edit{At: 2}, api.Edit{At: 1, Del: 2, Ins: "b"}},
	} {
		t.Run(c.what, func(t *testing.T) {
			checkNoRebase(t, c.a, c.b)
			checkNoRebase(t, c.b, c.a)
		})
	}
}

// TestRebaseIsThatOfTheModel moves a by counting the bytes of the other edit's result that stand before it.
func TestRebaseIsThatOfTheModel(t *testing.T) { // P3.4
	const n = 5
	eachEdit(n, func(a api.Edit) {
		eachEdit(n, func(b api.Edit) {
			switch {
			case b.At+b.Del <= a.At:
				checkRebase(t, a, b, b.At+len(b.Ins)+(a.At-b.At-b.Del))
			case a.At+a.Del <= b.At:
				checkRebase(t, a, b, a.At)
			default:
				checkNoRebase(t, a, b)
			}
		})
	})
}

func TestRebaseRefusesInvalidEdits(t *testing.T) { // P3.4
	bad := []api.Edit{
		{At: -1},
		{At: -1, Ins: "x"},
		{At: -1, Del: 1},
		{At: -5, Del: 5},
		{At: 0, Del: -1},
		{At: 5, Del: -1, Ins: "x"},
		{At: 5, Del: -5},
		{At: -1, Del: -1},
		{At: farthest, Del: 1},
		{At: 1, Del: farthest},
		{At: farthest + 1},
		{Del: farthest + 1},
		{At: farthest, Del: farthest},
		{At: farthest + 1, Del: -1},
		{At: -1, Del: farthest + 1},
	}
	for _, large := range []int{math.MinInt, math.MinInt + 1, 1 << 32, 1<<32 + 1, 1 << 62, math.MaxInt - 1, math.MaxInt} {
		bad = append(bad, api.Edit{At: large, Ins: "x"}, api.Edit{Del: large}, api.Edit{At: large, Del: large},
			api.Edit{At: large, Del: -large}, api.Edit{At: math.MaxInt, Del: large}, api.Edit{At: math.MinInt, Del: large})
	}
	for _, e := range bad {
		for _, good := range []api.Edit{{}, {At: 0, Del: 1}, {At: 3, Del: 1, Ins: "z"}, {At: farthest}} {
			checkNoRebase(t, e, good)
			checkNoRebase(t, good, e)
		}
		checkNoRebase(t, e, e)
	}
}

func TestRebaseOfTheFarthestEdits(t *testing.T) { // P3.4
	for _, c := range []struct {
		a, b api.Edit
		at   int
	}{
		{api.Edit{At: farthest, Ins: "z"}, api.Edit{}, farthest},
		{api.Edit{At: farthest}, api.Edit{Ins: "pqr"}, farthest + 3}, // only the arguments are bounded
		{api.Edit{At: farthest}, api.Edit{Del: farthest, Ins: "p"}, 1},
		{api.Edit{At: farthest}, api.Edit{At: farthest - 1, Del: 1}, farthest - 1},
		{api.Edit{At: farthest - 1, Del: 1}, api.Edit{Del: farthest - 1}, 0},
		{api.Edit{At: farthest, Ins: "z"}, api.Edit{At: farthest, Ins: "pq"}, farthest + 2},
		{api.Edit{}, api.Edit{At: farthest, Ins: "z"}, 0},
		{api.Edit{Del: farthest}, api.Edit{At: farthest, Ins: "z"}, 0},
		{api.Edit{At: farthest - 2, Del: 1}, api.Edit{At: farthest - 1, Del: 1}, farthest - 2},
		{api.Edit{}, api.Edit{Del: farthest}, 0},
	} {
		checkRebase(t, c.a, c.b, c.at)
	}
	checkNoRebase(t, api.Edit{Del: farthest}, api.Edit{Del: farthest})
	checkNoRebase(t, api.Edit{At: farthest - 1, Del: 1}, api.Edit{Del: farthest})
	checkNoRebase(t, api.Edit{At: 1, Del: farthest - 1}, api.Edit{At: farthest - 1, Del: 1})
}

func TestRebasingIsSymmetric(t *testing.T) { // P3.5
	s := "abcde"
	eachEdit(len(s), func(a api.Edit) {
		eachEdit(len(s), func(b api.Edit) {
			b.Ins = "uvw"[:len(b.Ins)]
			a2, ok := textedit.Rebase(a, b)
			b2, ok2 := textedit.Rebase(b, a)
			if ok != ok2 {
				t.Errorf("rebasing %v and %v: %t and %t", a, b, ok, ok2)
			}
			if !ok || a.At == b.At && a.Del == 0 && b.Del == 0 {
				return
			}
			one, err := textedit.ApplyAll(s, []api.Edit{a, b2})
			other, err2 := textedit.ApplyAll(s, []api.Edit{b, a2})
			if one != other || err != api.OK || err2 != api.OK {
				t.Errorf("%v and %v lead to %q, error %d; %v and %v lead to %q, error %d", a, b2, one, err, b, a2, other, err2)
			}
		})
	})
}

// The order of two insertions at the same offset is that in which they are applied, the first one in front.
func TestRebasedInsertionGoesBehind(t *testing.T) { // P3.4, P3.5
	a, b := api.Edit{At: 1, Ins: "A"}, api.Edit{At: 1, Ins: "BB"}
	a2, _ := textedit.Rebase(a, b)
	b2, _ := textedit.Rebase(b, a)
	if got, _ := textedit.ApplyAll("xy", []api.Edit{a, b2}); got != "xABBy" {
		t.Errorf("%v and %v lead to %q", a, b2, got)
	}
	if got, _ := textedit.ApplyAll("xy", []api.Edit{b, a2}); got != "xBBAy" {
		t.Errorf("%v and %v lead to %q", b, a2, got)
	}
}
