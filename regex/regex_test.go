package regex_test

import (
	"math"
	"slices"
	"testing"

	"emendate/api"
	"emendate/regex"
)

func checkValid(t *testing.T, what string, r api.Regex, want bool) {
	t.Helper()
	if got := regex.Valid(r); got != want {
		t.Errorf("P8.1: %s: Valid is %t", what, got)
	}
}

// wrappers put an expression on a path that is one longer, as the first kid, the last one or one between others.
func wrappers() map[string]func(r api.Regex) api.Regex {
	a := set("a")
	return map[string]func(r api.Regex) api.Regex{
		"star":         star,
		"concat first": func(r api.Regex) api.Regex { return concat(r, a) },
		"concat last":  func(r api.Regex) api.Regex { return concat(a, r) },
		"concat third": func(r api.Regex) api.Regex { return concat(a, empty(), r, a) },
		"union first":  func(r api.Regex) api.Regex { return union(r, a) },
		"union last":   func(r api.Regex) api.Regex { return union(none(), r) },
		"union second": func(r api.Regex) api.Regex { return union(a, r, a) },
	}
}

func TestValidKinds(t *testing.T) { // P8.1
	a, one := set("a"), bytesOf("a")
	for _, c := range []struct {
		what string
		r    api.Regex
		want bool
	}{
		{"none", none(), true},
		{"none with a slice of no kids", api.Regex{Kind: api.RxNone, Kids: []api.Regex{}}, true},
		{"none with a kid", api.Regex{Kind: api.RxNone, Kids: []api.Regex{a}}, false},
		{"none with kids", api.Regex{Kind: api.RxNone, Kids: []api.Regex{a, a}}, false},
		{"none with a set", api.Regex{Kind: api.RxNone, Set: one}, false},
		{"empty", empty(), true},
		{"empty with a slice of no kids", api.Regex{Kind: api.RxEmpty, Kids: make([]api.Regex, 0, 3)}, true},
		{"empty with a kid", api.Regex{Kind: api.RxEmpty, Kids: []api.Regex{a}}, false},
		{"empty with kids", api.Regex{Kind: api.RxEmpty, Kids: []api.Regex{a, a}}, false},
		{"empty with a set", api.Regex{Kind: api.RxEmpty, Set: one}, false},
		{"set", a, true},
		{"set of two", set("ab"), true},
		{"set of all bytes", notSet(""), true},
		{"set of bytes that are not writable", set("\x00\xff"), true},
		{"set with a slice of no kids", api.Regex{Kind: api.RxSet, Set: one, Kids: []api.Regex{}}, true},
		{"empty set", set(""), false},
		{"set with a kid", api.Regex{Kind: api.RxSet, Set: one, Kids: []api.Regex{a}}, false},
		{"set with kids", api.Regex{Kind: api.RxSet, Set: one, Kids: []api.Regex{a, a}}, false},
		{"empty set with a kid", api.Regex{Kind: api.RxSet, Kids: []api.Regex{a}}, false},
		{"concat of none", concat(), false},
		{"concat of one", concat(a), false},
		{"concat of two", concat(a, a), true},
		{"concat of three", concat(a, none(), empty()), true},
		{"concat of many", concat(slices.Repeat([]api.Regex{a}, 1000)...), true},
		{"concat with a set", api.Regex{Kind: api.RxConcat, Set: one, Kids: []api.Regex{a, a}}, false},
		{"union of none", union(), false},
		{"union of one", union(a), false},
		{"union of two", union(a, a), true},
		{"union of three", union(a, none(), empty()), true},
		{"union of many", union(slices.Repeat([]api.Regex{a}, 1000)...), true},
		{"union with a set", api.Regex{Kind: api.RxUnion, Set: one, Kids: []api.Regex{a, a}}, false},
		{"star of none", api.Regex{Kind: api.RxStar}, false},
		{"star", star(a), true},
		{"star of empty", star(empty()), true},
		{"star of star", star(star(none())), true},
		{"star of two", api.Regex{Kind: api.RxStar, Kids: []api.Regex{a, a}}, false},
		{"star with a set", api.Regex{Kind: api.RxStar, Set: one, Kids: []api.Regex{a}}, false},
	} {
		checkValid(t, c.what, c.r, c.want)
		for name, wrap := range wrappers() {
			checkValid(t, c.what+" in "+name, wrap(c.r), c.want)
			checkValid(t, c.what+" deep in "+name, star(concat(none(), wrap(union(wrap(c.r), empty())))), c.want)
		}
	}
}

func TestValidSets(t *testing.T) { // P8.1
	for b := range 256 {
		s := bits(func(i int) bool { return i == b })
		checkValid(t, "set of a byte", ofSet(s), true)
		for _, r := range []api.Regex{none(), empty(), concat(empty(), empty()), union(empty(), empty()), star(empty())} {
			checkValid(t, show(r), r, true)
			r.Set = s
			checkValid(t, show(r)+" with a set of a byte", r, false)
		}
	}
}

func TestValidUnknownKinds(t *testing.T) { // P8.1
	a := set("a")
	for _, kind := range []int{0, 7, -1, -3, 8, 100, 256 + api.RxEmpty, 1<<32 + api.RxSet, math.MaxInt, math.MinInt} {
		for kids := range 4 {
			r := api.Regex{Kind: kind, Kids: slices.Repeat([]api.Regex{a}, kids)}
			checkValid(t, "unknown kind", r, false)
			checkValid(t, "unknown kind in a star", star(r), false)
			checkValid(t, "unknown kind in a concat", concat(a, r), false)
			checkValid(t, "unknown kind in a union", union(r, a), false)
			r.Set = a.Set
			checkValid(t, "unknown kind with a set", r, false)
		}
	}
}

// nested returns an expression with n expressions on its longest path.
func nested(n int, leaf api.Regex, wrap func(r api.Regex) api.Regex) api.Regex {
	for range n - 1 {
		leaf = wrap(leaf)
	}
	return leaf
}

func TestValidDepth(t *testing.T) { // P8.1
	for name, wrap := range wrappers() {
		for _, leaf := range []api.Regex{none(), empty(), set("a")} {
			for n := 1; n <= 40; n++ {
				r := nested(n, leaf, wrap)
				checkValid(t, name, r, n <= api.MaxNest)
				checkValid(t, name+" with a shorter path before", concat(nested(n/2, leaf, wrap), r), n < api.MaxNest)
				checkValid(t, name+" with a shorter path behind", union(leaf, r, nested(n/2, leaf, wrap)), n < api.MaxNest)
			}
			checkValid(t, name, nested(1000, leaf, wrap), false)
		}
	}
	wide := set("a")
	for i := range 14 { // many paths of the same length
		wide = concat(union(wide, wide), star(wide))
		checkValid(t, "wide", wide, true)
		checkValid(t, "wide, too long", nested(api.MaxNest-2*i-1, wide, star), false)
	}
}

// A slice can be an element of itself. Such expressions have infinite paths.
func TestCircularExpressions(t *testing.T) { // P8.1
	for _, kind := range []int{api.RxStar, api.RxConcat, api.RxUnion} {
		for place := range 3 {
			kids := []api.Regex{set("a"), empty(), star(set("b"))}
			if kind == api.RxStar {
				kids = kids[:1]
				place = 0
			}
			r := api.Regex{Kind: kind, Kids: kids}
			kids[place] = r
			checkValid(t, "circular", r, false)
			checkValid(t, "circular inside", concat(empty(), r), false)
		}
	}
}

// The results for arguments that are not valid are unspecified, but there is one.
func TestInvalidArguments(t *testing.T) {
	kids := []api.Regex{set("a"), set("b")}
	circular := union(kids...)
	kids[1] = circular
	deep := nested(100000, set("a"), star)
	for _, r := range []api.Regex{{}, {Kind: 7}, {Kind: api.RxStar}, set(""), union(), concat(), concat(set("a"), api.Regex{Kind: api.RxStar}), circular, deep} {
		regex.Format(r)
		regex.Nullable(r)
		regex.Match(r, "")
		regex.Match(r, "a")
		regex.Derive(r, 'a')
	}
	for _, r := range []api.Regex{none(), notSet(""), set("a\x00"), notSet("a\x00"), star(set("\xff"))} {
		regex.Format(r) // not printable
	}
}

// Rule 5: the arguments remain as they are. The rules of the language: a result has memory of its own.
func TestMemory(t *testing.T) {
	a := set("a")
	kids := make([]api.Regex, 3, 8)
	kids[0], kids[1], kids[2] = star(a), star(union(a, concat(a, set("b")))), empty()
	r := concat(kids...)
	r.Kids = kids
	before, spare := copyOf(r), copyOf(concat(kids[:8]...))
	d := regex.Derive(r, 'a')
	second := regex.Derive(d, 'a')
	want := copyOf(second)
	regex.Valid(r)
	regex.Format(r)
	regex.Nullable(r)
	regex.Match(r, "aaab")
	destroy(d)
	if !equal(r, before) || !equal(concat(kids[:8]...), spare) {
		t.Error("P8.4: the argument is changed, or shared with the result")
	}
	if !equal(second, want) {
		t.Error("P8.4: the results share memory")
	}
	checkOwnMemory(t, second)
	x, _, _ := regex.Parse("((ab)++|(c*)+)+")
	checkOwnMemory(t, x)
}

// destroy overwrites all expressions of r.
func destroy(r api.Regex) {
	for i := range r.Kids {
		destroy(r.Kids[i])
		r.Kids[i] = api.Regex{}
	}
}

// checkOwnMemory requires that no two lists of kids of r share memory.
func checkOwnMemory(t *testing.T, r api.Regex) {
	t.Helper()
	seen := map[*api.Regex]bool{}
	var visit func(r api.Regex)
	visit = func(r api.Regex) {
		for i := range r.Kids {
			if seen[&r.Kids[i]] {
				t.Fatalf("parts of %s share memory", show(r))
			}
			seen[&r.Kids[i]] = true
			visit(r.Kids[i])
		}
	}
	visit(r)
}
