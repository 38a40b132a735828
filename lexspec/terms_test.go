package lexspec_test

import (
	"math"
	"slices"
	"testing"

	"emendate/api"
	"emendate/lexspec"
)

// manySpecs returns specifications of all kinds, with and without layout. Most are not valid.
func manySpecs() []api.LexSpec {
	l := append(validSpecs(),
		api.LexSpec{},
		of([]api.TokenDef{}...),
		of(make([]api.TokenDef, 3)...),
		of(letters(39)...), of(letters(40)...), of(letters(41)...), of(letters(200)...),
		of(plain("", "(", ""), plain("a b", "", "\n\xff"), plain("newline", "a*", "a"), plain("dedent", "b", "b"), plain("indent", "c", "c")),
		of(keyword("same", "x", "1"), keyword("same", "y", "2"), skip("same", "z", "3")),
		api.LexSpec{Defs: letters(2), Misspelling: -1, Unclosed: math.MaxInt},
	)
	for _, spec := range slices.Clone(l) {
		spec.Layout = !spec.Layout
		l = append(l, spec)
	}
	return l
}

func TestTerms(t *testing.T) { // P11.3
	a, b := plain("a", "a", "a"), skip("b", "b", "b")
	for _, x := range []struct {
		spec api.LexSpec
		want []string
	}{
		{api.LexSpec{}, nil},
		{api.LexSpec{Layout: true}, []string{"newline", "indent", "dedent"}},
		{of(a), []string{"a"}},
		{of(a, b), []string{"a", "b"}},
		{of(b, a), []string{"b", "a"}},
		{of(b, a, a, b), []string{"b", "a", "a", "b"}},
		{api.LexSpec{Defs: []api.TokenDef{a}, Layout: true}, []string{"a", "newline", "indent", "dedent"}},
		{api.LexSpec{Defs: []api.TokenDef{b, keyword("if", "if", "of"), a}, Layout: true}, []string{"b", "if", "a", "newline", "indent", "dedent"}},
		{api.LexSpec{Defs: []api.TokenDef{plain("dedent", "", ""), plain("", "", ""), plain("1 \xff", "", "")}, Layout: true}, []string{"dedent", "", "1 \xff", "newline", "indent", "dedent"}},
		{api.LexSpec{Defs: []api.TokenDef{a}, Misspelling: 3, Unclosed: -3}, []string{"a"}},
	} {
		if got := lexspec.Terms(x.spec); !slices.Equal(got, x.want) {
			t.Errorf("P11.3: %s: %q, want %q", show(x.spec), got, x.want)
		}
	}
	for _, spec := range manySpecs() {
		var want []string
		for _, d := range spec.Defs {
			want = append(want, d.Name)
		}
		if spec.Layout {
			want = append(want, "newline", "indent", "dedent")
		}
		if got := lexspec.Terms(spec); !slices.Equal(got, want) {
			t.Errorf("P11.3: %s: %q, want %q", show(spec), got, want)
		}
	}
}

func TestSample(t *testing.T) { // P11.3
	for _, spec := range manySpecs() {
		count := len(spec.Defs)
		for i, d := range spec.Defs {
			if got := lexspec.Sample(spec, i); got != d.Sample {
				t.Errorf("P11.3: %s: sample %d: %q, want %q", show(spec), i, got, d.Sample)
			}
		}
		for _, kind := range []int{api.KindError, -2, -count, -count - 1, math.MinInt, count, count + 1, count + 2, count + 3, 1 << 32, math.MaxInt} {
			if kind == 0 && count > 0 {
				continue
			}
			if got := lexspec.Sample(spec, kind); got != "" {
				t.Errorf("P11.3: %s: sample %d: %q", show(spec), kind, got)
			}
		}
	}
	spec := of(plain("a", "a|b", "b"), skip("c", "c", "c"), keyword("d", "dd", "dd"), plain("none", "e", ""))
	for kind, want := range map[int]string{-1: "", 0: "b", 1: "c", 2: "dd", 3: "", 4: ""} {
		if got := lexspec.Sample(spec, kind); got != want {
			t.Errorf("P11.3: sample %d: %q, want %q", kind, got, want)
		}
	}
}

func TestSeparator(t *testing.T) { // P11.3
	a, b, c, k := plain("a", "a", "a"), skip("b", "b", "b"), skip("c", "c", "c\n"), keyword("k", "k", "k")
	for _, x := range []struct {
		defs  []api.TokenDef
		want  string
		found bool
	}{
		{nil, "", false},
		{[]api.TokenDef{a}, "", false},
		{[]api.TokenDef{a, k}, "", false},
		{[]api.TokenDef{k, a, k}, "", false},
		{[]api.TokenDef{b}, "b", true},
		{[]api.TokenDef{a, b}, "b", true},
		{[]api.TokenDef{b, a}, "b", true},
		{[]api.TokenDef{a, k, a, c, k}, "c\n", true},
		{[]api.TokenDef{b, c}, "b", true},
		{[]api.TokenDef{c, b}, "c\n", true},
		{[]api.TokenDef{a, c, a, b, b}, "c\n", true},
		{[]api.TokenDef{a, skip("", "(", ""), b}, "", true}, // not valid
		{[]api.TokenDef{{Name: "d", Kind: 0, Pattern: "d", Sample: "d"}, {Name: "e", Kind: 6, Pattern: "e", Sample: "e"}, {Name: "f", Kind: -2, Pattern: "f", Sample: "f"}}, "", false},
		{[]api.TokenDef{{Name: "d", Kind: 4, Pattern: "d", Sample: "d"}, b}, "b", true},
		{append(letters(100), c, b), "c\n", true},
	} {
		for _, layout := range []bool{false, true} {
			got, found := lexspec.Separator(api.LexSpec{Defs: x.defs, Layout: layout, Misspelling: -1})
			if got != x.want || found != x.found {
				t.Errorf("P11.3: %s: %q %t, want %q %t", show(of(x.defs...)), got, found, x.want, x.found)
			}
		}
	}
}
