package layout_test

import (
	"math"
	"slices"
	"testing"

	"emendate/api"
	"emendate/layout"
)

// ofKinds returns different tokens of the given kinds.
func ofKinds(kinds ...int) []api.Token {
	var l []api.Token
	for i, kind := range kinds {
		l = append(l, api.Token{Kind: kind, At: 10 - i, Text: string(rune('a' + i)), Look: i - 1})
	}
	return l
}

// checkStrip compares what Strip returns with the tokens at the given places.
func checkStrip(t *testing.T, defs int, kinds []int, places ...int) {
	t.Helper()
	l := ofKinds(kinds...)
	var want []api.Token
	for _, i := range places {
		want = append(want, l[i])
	}
	longer := append(slices.Clone(l), ofKinds(-9, -8)...)
	before := slices.Clone(longer)
	got := layout.Strip(longer[:len(l)], defs)
	if !slices.Equal(got, want) {
		t.Errorf("P15.2: Strip of the kinds %v, %d: %+v, want %+v", kinds, defs, got, want)
	}
	for i := range got[:cap(got)] {
		got[:cap(got)][i] = api.Token{Kind: -7}
	}
	if !slices.Equal(longer, before) {
		t.Errorf("P15.2: Strip of the kinds %v, %d changes its argument or shares memory with it", kinds, defs)
	}
}

func TestStrip(t *testing.T) { // P15.2
	for _, defs := range []int{math.MinInt, -1, 0, 1, 3, 1000, math.MaxInt} {
		checkStrip(t, defs, nil)
		checkStrip(t, defs, []int{})
	}
	kinds := []int{2, 3, 0, 4, -1, 5, 1, 6, 2, -5, 1000}
	checkStrip(t, 3, kinds, 0, 2, 4, 6, 8, 9)
	checkStrip(t, 2, kinds, 2, 4, 6, 9)
	checkStrip(t, 1, kinds, 2, 4, 9)
	checkStrip(t, 0, kinds, 4, 9)
	checkStrip(t, -1, kinds, 9)
	checkStrip(t, -5, kinds)
	checkStrip(t, -4, kinds, 9)
	checkStrip(t, 1000, kinds, 0, 1, 2, 3, 4, 5, 6, 7, 8, 9)
	checkStrip(t, 1001, kinds, 0, 1, 2, 3, 4, 5, 6, 7, 8, 9, 10)
	checkStrip(t, 3, []int{0, 1, 2}, 0, 1, 2)
	checkStrip(t, 3, []int{3, 4, 5, 6})
	limits := []int{math.MaxInt, math.MinInt, 0, math.MaxInt - 1, math.MinInt + 1}
	checkStrip(t, math.MinInt, limits)
	checkStrip(t, math.MinInt+1, limits, 1)
	checkStrip(t, math.MaxInt, limits, 1, 2, 3, 4)
	checkStrip(t, math.MaxInt-1, limits, 1, 2, 4)
}

// checkBalanced also inserts tokens of other kinds everywhere.
func checkBalanced(t *testing.T, want bool, defs int, kinds ...int) {
	t.Helper()
	l := ofKinds(kinds...)
	before := slices.Clone(l)
	if got := layout.Balanced(l, defs); got != want {
		t.Errorf("P15.2: Balanced of the kinds %v, %d: %t", kinds, defs, got)
	}
	if !slices.Equal(l, before) {
		t.Errorf("P15.2: Balanced of the kinds %v, %d changes its argument", kinds, defs)
	}
	for i := range len(l) + 1 {
		for _, kind := range []int{defs, defs + 3, defs - 1, -1, 0, math.MinInt, math.MaxInt} {
			if kind == defs+1 || kind == defs+2 {
				continue
			}
			if more := slices.Insert(slices.Clone(kinds), i, kind); layout.Balanced(ofKinds(more...), defs) != want {
				t.Errorf("P15.2: Balanced of the kinds %v, %d: %t", more, defs, !want)
			}
		}
	}
}

func TestBalanced(t *testing.T) { // P15.2
	for _, defs := range []int{0, 1, 3, 40, 1000, -1, -2, -3, -40, math.MinInt, math.MinInt + 3, math.MaxInt - 3} {
		indent, dedent := defs+1, defs+2
		checkBalanced(t, true, defs)
		checkBalanced(t, true, defs, indent, dedent)
		checkBalanced(t, true, defs, indent, dedent, indent, dedent)
		checkBalanced(t, true, defs, indent, indent, dedent, dedent)
		checkBalanced(t, true, defs, indent, indent, dedent, indent, dedent, dedent)
		// Unequal counts.
		checkBalanced(t, false, defs, indent)
		checkBalanced(t, false, defs, dedent)
		checkBalanced(t, false, defs, indent, dedent, dedent)
		checkBalanced(t, false, defs, indent, indent, dedent)
		checkBalanced(t, false, defs, indent, indent)
		checkBalanced(t, false, defs, dedent, dedent)
		// A dedent token too early.
		checkBalanced(t, false, defs, dedent, indent)
		checkBalanced(t, false, defs, dedent, indent, indent, dedent)
		checkBalanced(t, false, defs, indent, dedent, dedent, indent)
		checkBalanced(t, false, defs, indent, dedent, dedent, indent, indent, dedent)
		checkBalanced(t, false, defs, indent, indent, dedent, dedent, dedent, indent)
	}
	if l := slices.Concat(slices.Repeat(ofKinds(8), 100000), slices.Repeat(ofKinds(9), 100000)); !layout.Balanced(l, 7) || layout.Balanced(l[1:], 7) || layout.Balanced(l[:len(l)-1], 7) {
		t.Error("P15.2: a long list")
	}
}

// The kinds defs + 1 and defs + 2 are no numbers of type int here, so that no token has them.
func TestBalancedAtTheLimits(t *testing.T) { // P15.2
	const greatest, least = math.MaxInt, math.MinInt
	for _, kinds := range [][]int{{}, {greatest}, {least}, {least + 1}, {least, least + 1}, {least + 1, least}, {greatest - 1, greatest, least, least + 1}} {
		if !layout.Balanced(ofKinds(kinds...), greatest) {
			t.Errorf("P15.2: Balanced of the kinds %v, %d: false", kinds, greatest)
		}
	}
	for _, kinds := range [][]int{{}, {greatest - 1}, {least}, {least + 1, least, greatest - 1}} {
		if !layout.Balanced(ofKinds(kinds...), greatest-1) {
			t.Errorf("P15.2: Balanced of the kinds %v, %d: false", kinds, greatest-1)
		}
	}
	for _, kinds := range [][]int{{greatest}, {greatest, least}, {least, greatest}, {greatest, greatest}} {
		if layout.Balanced(ofKinds(kinds...), greatest-1) {
			t.Errorf("P15.2: Balanced of the kinds %v, %d: true", kinds, greatest-1)
		}
	}
}

func TestBalancedByTheDefinition(t *testing.T) { // P15.2
	for _, defs := range []int{0, 1, -2, 1000, math.MinInt, math.MaxInt - 2} {
		for _, s := range allStrings("\x00\x01\x02\x03", 7) {
			var kinds []int
			for i := range len(s) {
				kinds = append(kinds, defs+int(s[i]))
			}
			l := ofKinds(kinds...)
			if got, want := layout.Balanced(l, defs), modelBalanced(l, defs); got != want {
				t.Errorf("P15.2: Balanced of the kinds %v, %d: %t", kinds, defs, got)
			}
		}
	}
}
