package layout_test

import (
	"slices"
	"testing"

	"emendate/api"
	"emendate/layout"
)

func TestLayoutIsBalanced(t *testing.T) { // P15.3
	eachCase(func(l []api.Token, s string, defs int) {
		if got := layout.Apply(l, s, defs); !layout.Balanced(got, defs) || !modelBalanced(got, defs) {
			t.Errorf("P15.3: %q: %+v, %d is not balanced", s, got, defs)
		}
	})
}

func TestStrippingRestores(t *testing.T) { // P15.3
	eachCase(func(l []api.Token, s string, defs int) {
		if got := layout.Strip(layout.Apply(l, s, defs), defs); !slices.Equal(got, l) {
			t.Errorf("P15.3: %q: the tokens %+v, %d become %+v", s, l, defs, got)
		}
	})
}

// gaps returns the kinds of the layout tokens, less defs, before each token of l and at the end.
func gaps(l []api.Token, s string, defs int) [][]int {
	all := [][]int{nil}
	for _, token := range layout.Apply(l, s, defs) {
		if last := len(all) - 1; token.Kind >= defs {
			all[last] = append(all[last], token.Kind-defs)
		} else {
			all = append(all, nil)
		}
	}
	return all
}

func TestLinesAreSeparated(t *testing.T) { // P15.3
	eachCase(func(l []api.Token, s string, defs int) {
		all := gaps(l, s, defs)
		if len(all) != len(l)+1 {
			t.Errorf("P15.3: %q: %d tokens are between the layout tokens of %+v, %d", s, len(all)-1, l, defs)
			return
		}
		for i, kinds := range all[:len(l)] {
			if !isFirst(l, s, i) && len(kinds) > 0 {
				t.Errorf("P15.3: %q: %+v, %d: %v before token %d, which is not the first of its line", s, l, defs, kinds, i)
			}
			if i > 0 && isFirst(l, s, i) && (len(kinds) == 0 || kinds[0] > 1 || slices.Min(append(kinds[1:], 2)) < 2) {
				t.Errorf("P15.3: %q: %+v, %d: %v before token %d, which is the first of its line", s, l, defs, kinds, i)
			}
		}
	})
}

// kindsOf returns the kinds of what Apply returns.
func kindsOf(l []api.Token, s string, defs int) []int {
	var kinds []int
	for _, token := range layout.Apply(l, s, defs) {
		kinds = append(kinds, token.Kind)
	}
	return kinds
}

// An empty line more in front of a line with tokens, or one of blanks, changes no kind.
func TestLinesWithoutTokensDoNotMatter(t *testing.T) { // P15.3
	eachCase(func(l []api.Token, s string, defs int) {
		want := kindsOf(l, s, defs)
		for i, token := range l {
			if !isFirst(l, s, i) {
				continue
			}
			start := token.At - indentation(s, token.At)
			for _, line := range []string{"\n", "  \n", "\n \n\n"} {
				moved := slices.Clone(l)
				for k := i; k < len(l); k++ {
					moved[k].At += len(line)
				}
				if got := kindsOf(moved, s[:start]+line+s[start:], defs); !slices.Equal(got, want) {
					t.Errorf("P15.3: %q: %+v, %d: the kinds %v, and %v with %q before token %d", s, l, defs, want, got, line, i)
				}
			}
		}
	})
}
