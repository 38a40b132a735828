package regex_test

import (
	"math/rand"
	"slices"
	"strings"
	"testing"

	"emendate/api"
	"emendate/regex"
)

func checkMatch(t *testing.T, r api.Regex, s string, want bool) {
	t.Helper()
	if got := regex.Match(r, s); got != want {
		t.Errorf("P8.4: Match(%s, %.60q) is %t", show(r), s, got)
	}
}

func checkNullable(t *testing.T, r api.Regex, want bool) {
	t.Helper()
	if got := regex.Nullable(r); got != want {
		t.Errorf("P8.4: Nullable(%s) is %t", show(r), got)
	}
}

// derivative returns the derivative of r by the bytes of s, one after another.
func derivative(r api.Regex, s string) api.Regex {
	for i := range len(s) {
		r = regex.Derive(r, s[i])
	}
	return r
}

// checkShape requires of a derivative what makes an expression valid, apart from its depth.
func checkShape(t *testing.T, r api.Regex) {
	t.Helper()
	kids := r.Kids
	r.Kids = slices.Repeat([]api.Regex{set("a")}, len(kids))
	if !regex.Valid(r) {
		t.Errorf("P8.4: a derivative contains %s", show(r))
	}
	for _, kid := range kids {
		checkShape(t, kid)
	}
}

// checkDerivative requires that the derivative of r by s matches what r matches behind s, among some strings.
func checkDerivative(t *testing.T, r api.Regex, s string, strings []string) {
	t.Helper()
	d := derivative(r, s)
	checkShape(t, d)
	checkNullable(t, d, slowMatch(r, s))
	for _, behind := range strings {
		want := slowMatch(r, s+behind)
		if got := regex.Match(d, behind); got != want {
			t.Errorf("P8.4: the derivative of %s by %q: it matches %q: %t", show(r), s, behind, got)
		}
		if got := slowMatch(d, behind); got != want {
			t.Errorf("P8.4: the derivative of %s by %q is %s", show(r), s, show(d))
		}
	}
}

// checkLanguage compares r with the definition of matching.
func checkLanguage(t *testing.T, r api.Regex, strings []string) {
	t.Helper()
	checkNullable(t, r, slowMatch(r, ""))
	for _, s := range strings {
		checkMatch(t, r, s, slowMatch(r, s))
	}
}

func TestNullable(t *testing.T) { // P8.4
	a, no, never := set("a"), empty(), none()
	for _, x := range []struct {
		r    api.Regex
		want bool
	}{
		{never, false},
		{no, true},
		{a, false},
		{notSet(""), false},
		{concat(no, no), true},
		{concat(a, no), false},
		{concat(no, a), false},
		{concat(no, no, a), false},
		{concat(no, a, no), false},
		{concat(no, star(a), no), true},
		{concat(no, never), false},
		{union(a, never), false},
		{union(a, no), true},
		{union(no, a), true},
		{union(a, a, star(a)), true},
		{union(a, concat(no, no)), true},
		{star(a), true},
		{star(never), true},
		{star(no), true},
		{concat(star(never), union(never, no)), true},
	} {
		checkNullable(t, x.r, x.want)
		checkMatch(t, x.r, "", x.want)
	}
}

func TestMatch(t *testing.T) { // P8.4
	a, b, c, never := set("a"), set("b"), set("c"), none()
	for _, x := range []struct {
		r       api.Regex
		yes, no []string
	}{
		{concat(a, star(union(b, c))), []string{"a", "abcb", "accc"}, []string{"", "ba", "aa", "abd", "aba"}},
		{never, nil, []string{"", "a", "\x00", "ab"}},
		{empty(), []string{""}, []string{"a", "\x00", "aa"}},
		{a, []string{"a"}, []string{"", "b", "aa", "ab"}},
		{set("\x00\xff\x80"), []string{"\x00", "\xff", "\x80"}, []string{"", "\x01", "\xfe", "\x7f", "\x00\x00"}},
		{notSet("\n"), []string{"a", "\xff", "\x00", "\t"}, []string{"", "\n", "é"}},
		{concat(a, b, c), []string{"abc"}, []string{"", "ab", "abcd", "abca", "acb"}},
		{concat(a, never), nil, []string{"", "a", "ab"}},
		{concat(never, star(a)), nil, []string{"", "a"}},
		{concat(a, empty(), b), []string{"ab"}, []string{"", "a", "b"}},
		{concat(option(a), option(b), option(c)), []string{"", "a", "b", "c", "ab", "ac", "bc", "abc"}, []string{"ba", "aa", "cb", "abcc"}},
		{concat(star(a), a), []string{"a", "aa", "aaaa"}, []string{"", "b", "ab"}},
		{concat(star(a), star(b), star(a)), []string{"", "a", "aba", "bb", "aabbaa"}, []string{"abab", "c"}},
		{union(a, never), []string{"a"}, []string{"", "b"}},
		{union(concat(a, b), a, concat(a, b, c)), []string{"a", "ab", "abc"}, []string{"", "b", "ac", "abcc"}},
		{star(never), []string{""}, []string{"a"}},
		{star(empty()), []string{""}, []string{"a"}},
		{star(a), []string{"", "a", "aaaaa"}, []string{"b", "ab", "aab"}},
		{star(star(a)), []string{"", "a", "aaaaa"}, []string{"b", "ab"}},
		{star(option(a)), []string{"", "a", "aa"}, []string{"b"}},
		{star(concat(a, b)), []string{"", "ab", "abab"}, []string{"a", "aba", "ba", "abb"}},
		{star(concat(star(a), star(b))), []string{"", "a", "b", "ba", "abba"}, []string{"c", "abc"}},
		{star(concat(option(a), b)), []string{"", "b", "ab", "bab", "abb"}, []string{"a", "aab", "ba"}},
		{star(union(concat(a, b), concat(b, a), a)), []string{"", "a", "aba", "baab", "abba"}, []string{"b", "bb", "abb"}},
		{concat(star(union(a, b)), a, union(a, b), union(a, b)), []string{"aab", "abb", "bbabb", "aaa"}, []string{"", "ab", "bbb", "babb" + "b"}},
	} {
		for _, s := range x.yes {
			checkMatch(t, x.r, s, true)
			if !slowMatch(x.r, s) {
				t.Errorf("the model does not match %s and %q", show(x.r), s)
			}
		}
		for _, s := range x.no {
			checkMatch(t, x.r, s, false)
			if slowMatch(x.r, s) {
				t.Errorf("the model matches %s and %q", show(x.r), s)
			}
		}
	}
}

// Every byte, by sets with and without it.
func TestMatchEveryByte(t *testing.T) { // P8.4
	for b := range 256 {
		s := string([]byte{byte(b)})
		one := bits(func(i int) bool { return i == b })
		other := byte(b + 1)
		checkMatch(t, ofSet(one), s, true)
		checkMatch(t, ofSet(complement(one)), s, false)
		checkMatch(t, ofSet(one), string([]byte{other}), false)
		checkMatch(t, ofSet(complement(one)), string([]byte{other}), true)
		checkNullable(t, regex.Derive(ofSet(one), byte(b)), true)
		checkNullable(t, regex.Derive(ofSet(one), other), false)
		checkMatch(t, regex.Derive(concat(ofSet(one), set("a")), byte(b)), "a", true)
		checkMatch(t, regex.Derive(concat(ofSet(one), set("a")), other), "a", false)
	}
}

func TestDerive(t *testing.T) { // P8.4
	a, b, c, never := set("a"), set("b"), set("c"), none()
	short := shortStrings("abc", 3)
	for _, r := range []api.Regex{
		never, empty(), a, set("abc"), notSet("a"),
		concat(a, b), concat(a, star(b), c), concat(never, a), concat(a, never), concat(star(a), never), concat(empty(), a), concat(a, empty()),
		union(a, never), union(a, a), union(concat(a, b), concat(a, c)), union(star(a), concat(a, b)),
		star(never), star(empty()), star(a), star(star(a)), star(option(a)), star(concat(star(a), star(b))), star(concat(option(a), star(b), option(c))),
		concat(star(union(a, b)), a, union(a, b), union(a, b)),
		plus(plus(plus(option(a)))),
	} {
		for _, s := range shortStrings("abcd", 4) {
			checkDerivative(t, r, s, short)
		}
	}
}

// Expressions that remain to be matched behind the same byte, with differences in any place: only those that are equal are one.
func TestDeriveAlternatives(t *testing.T) { // P8.4
	a, b := set("a"), set("b")
	remaining := append(smallRegexes(2, []api.Regex{a, b, empty()}), concat(a, b, a), concat(a, b, b), star(concat(a, a)), star(concat(a, b)), set("ab"), none())
	behind := shortStrings("ab", 3)
	for _, x := range remaining {
		for _, y := range remaining {
			for _, r := range []api.Regex{
				union(concat(a, x), concat(a, y)),
				union(concat(a, x, b), concat(a, y, b)),
				union(concat(a, b, x), concat(a, b, y)),
				union(concat(a, x), concat(a, x, y)),
			} {
				d := regex.Derive(r, 'a')
				for _, s := range behind {
					checkMatch(t, d, s, slowMatch(r, "a"+s))
				}
			}
		}
	}
}

// All small expressions, and the derivatives by all short strings.
func TestSmallExpressions(t *testing.T) { // P8.4
	l := smallRegexes(3, []api.Regex{none(), empty(), set("a"), set("ab")})
	short, behind := shortStrings("ab", 4), shortStrings("ab", 2)
	for _, r := range l {
		checkLanguage(t, r, short)
		for _, s := range []string{"a", "b", "ab", "bab", "c", "ca"} {
			checkDerivative(t, r, s, behind)
		}
	}
}

func TestRandomExpressions(t *testing.T) { // P8.4
	random := rand.New(rand.NewSource(3))
	leaves := []api.Regex{set("a"), set("b"), set("c"), set("ab"), notSet("a"), set("a"), set("b"), empty(), none()}
	short, behind := shortStrings("abc", 4), shortStrings("abc", 2)
	for range 1500 {
		r := randomRegex(random, 2+random.Intn(4), leaves)
		checkLanguage(t, r, short)
		for range 3 {
			checkDerivative(t, r, short[random.Intn(len(short))], behind)
		}
		s := short[random.Intn(len(short))]
		checkDerivative(t, r, s+"\xff", behind) // a byte that few expressions match
		checkDerivative(t, r, s+"\xff"+s, behind)
	}
}

func TestDeepExpressions(t *testing.T) { // P8.4
	for _, wrap := range wrappers() {
		for _, leaf := range []api.Regex{none(), empty(), set("ab")} {
			r := nested(api.MaxNest, leaf, wrap)
			for _, s := range shortStrings("ab", 3) {
				checkMatch(t, r, s, slowMatch(r, s))
				d := derivative(r, s)
				checkShape(t, d)
				checkNullable(t, d, slowMatch(r, s))
				for _, behind := range shortStrings("ab", 2) {
					checkMatch(t, d, behind, slowMatch(r, s+behind))
				}
			}
		}
	}
}

// A derivative may be nested more deeply than a valid expression, and is accepted like one.
func TestDerivativesOfDeepExpressions(t *testing.T) { // P8.4
	a, b, c := set("a"), set("b"), set("c")
	for _, r := range []api.Regex{
		star(union(concat(a, b), concat(a, c), nested(api.MaxNest-2, b, star))),
		star(union(concat(a, nested(api.MaxNest-3, b, star)), concat(a, c))),
		concat(star(a), star(union(a, nested(api.MaxNest-4, concat(b, c), star)))),
	} {
		if height(r) != api.MaxNest {
			t.Errorf("an expression is nested %d deep", height(r))
		}
		for _, s := range shortStrings("abc", 5) {
			d := derivative(r, s)
			checkNullable(t, d, regex.Match(r, s))
			for _, behind := range []string{"", "b", "c", "ab", "acab"} {
				checkMatch(t, d, behind, regex.Match(r, s+behind))
			}
		}
	}
}

// Long strings, and as many derivatives.
func TestLongStrings(t *testing.T) { // P8.4
	a, b := set("a"), set("b")
	const n = 1000
	many := strings.Repeat("a", n)
	for _, x := range []struct {
		r    api.Regex
		s    string
		want bool
	}{
		{star(a), many, true},
		{star(a), many + "b", false},
		{star(concat(a, b)), strings.Repeat("ab", n/2), true},
		{star(concat(a, b)), strings.Repeat("ab", n/2) + "a", false},
		{plus(plus(plus(plus(plus(a))))), many, true},
		{plus(plus(plus(plus(plus(a))))), many + "b", false},
		{star(star(star(concat(star(a), star(b))))), strings.Repeat("aab", n/3), true},
		{concat(slices.Repeat([]api.Regex{option(a)}, 40)...), many[:40], true},
		{concat(slices.Repeat([]api.Regex{option(a)}, 40)...), many[:41], false},
		{concat(append(slices.Repeat([]api.Regex{option(a)}, 40), slices.Repeat([]api.Regex{a}, 40)...)...), many[:40], true},
		{concat(append(slices.Repeat([]api.Regex{option(a)}, 40), slices.Repeat([]api.Regex{a}, 40)...)...), many[:39], false},
		{concat(star(union(a, b)), a, union(a, b), union(a, b)), many + "bb", true},
		{concat(star(union(a, b)), a, union(a, b), union(a, b)), many + "bbb", false},
		{concat(slices.Repeat([]api.Regex{star(a)}, 20)...), many, true},
		{concat(slices.Repeat([]api.Regex{a}, n)...), many, true},
		{concat(slices.Repeat([]api.Regex{a}, n)...), many[1:], false},
	} {
		checkMatch(t, x.r, x.s, x.want)
		if len(x.r.Kids) < n {
			d := derivative(x.r, x.s)
			checkNullable(t, d, x.want)
			checkMatch(t, d, "", x.want)
		}
	}
	checkMatch(t, star(notSet("b")), strings.Repeat("\xff", 1000000), true)
	checkMatch(t, star(notSet("b")), strings.Repeat("\xff", 1000000)+"b", false)
}
