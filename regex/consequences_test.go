package regex_test

import (
	"math/rand"
	"testing"

	"emendate/api"
	"emendate/regex"
)

// checkRoundTrip requires that the text of a printable expression can be parsed and formatted again, and that the result matches the same strings.
func checkRoundTrip(t *testing.T, r api.Regex, strings []string) {
	t.Helper()
	text := regex.Format(r)
	x, at, err := regex.Parse(text)
	if err != api.OK || at != 0 {
		t.Errorf("P8.5: %s has the text %q: %d, %d", show(r), text, at, err)
		return
	}
	if !equal(x, r) {
		t.Errorf("P8.5: %s has the text %q, which stands for %s", show(r), text, show(x))
	}
	if again := regex.Format(x); again != text {
		t.Errorf("P8.5: %q is formatted as %q", text, again)
	}
	for _, s := range strings {
		if regex.Match(x, s) != regex.Match(r, s) {
			t.Errorf("P8.5: %s and its text %q match different strings: %q", show(r), text, s)
		}
	}
}

func TestRoundTrip(t *testing.T) { // P8.5
	random := rand.New(rand.NewSource(4))
	short := shortStrings("ab*\n", 2)
	for range 5000 {
		checkRoundTrip(t, randomRegex(random, 1+random.Intn(6), printableLeaves()), short)
	}
	for _, r := range smallRegexes(3, []api.Regex{empty(), set("a"), set("]^-")}) {
		checkRoundTrip(t, r, []string{"", "a", "]", "a-"})
	}
}

// randomSet returns a set of bytes that are writable, of some kind.
func randomSet(random *rand.Rand) api.Set {
	var s api.Set
	for s == (api.Set{}) {
		lo, width, chance := random.Intn(127), 1+random.Intn(130), 1+random.Intn(4)
		s = bits(func(b int) bool { return isWritable(b) && b >= lo && b < lo+width && random.Intn(4) < chance })
	}
	return s
}

func TestRoundTripOfSets(t *testing.T) { // P8.5
	random := rand.New(rand.NewSource(5))
	for range 2000 {
		s := randomSet(random)
		for _, r := range []api.Regex{ofSet(s), ofSet(complement(s)), star(ofSet(s)), concat(ofSet(s), ofSet(complement(s)))} {
			checkRoundTrip(t, r, []string{"a", "^", "-"})
		}
	}
	for b := range 127 {
		if isWritable(b) {
			one := bits(func(i int) bool { return i == b })
			checkRoundTrip(t, ofSet(one), []string{string([]byte{byte(b)}), "x"})
			checkRoundTrip(t, ofSet(complement(one)), []string{string([]byte{byte(b)}), "x"})
		}
	}
}

func TestRoundTripOfTexts(t *testing.T) { // P8.5
	for _, s := range shortStrings("a()|*+?[^]-\\", 4) {
		if r, _, err := regex.Parse(s); err == api.OK {
			checkRoundTrip(t, r, []string{"", "a", "aa"})
		}
	}
}

func TestRoundTripOfDeepExpressions(t *testing.T) { // P8.5
	for name, wrap := range wrappers() {
		if name != "union last" { // has a kid that is not printable
			checkRoundTrip(t, nested(api.MaxNest, set("b"), wrap), []string{"", "a", "b", "ab"})
		}
	}
}

// checkComposition requires that the matches of expressions that consist of a and b follow from those of a and b.
func checkComposition(t *testing.T, a, b api.Regex, s string) {
	t.Helper()
	inBoth, repeated := false, s == ""
	for i := range len(s) + 1 {
		inBoth = inBoth || regex.Match(a, s[:i]) && regex.Match(b, s[i:])
		repeated = repeated || i > 0 && regex.Match(a, s[:i]) && regex.Match(star(a), s[i:])
	}
	for _, x := range []struct {
		r    api.Regex
		want bool
	}{
		{union(a, b), regex.Match(a, s) || regex.Match(b, s)},
		{union(none(), b, a), regex.Match(a, s) || regex.Match(b, s)},
		{concat(a, b), inBoth},
		{concat(a, empty(), b), inBoth},
		{concat(a, none(), b), false},
		{star(a), repeated},
		{star(star(a)), repeated},
		{concat(star(a), star(a)), repeated},
		{star(union(a, empty())), repeated},
	} {
		if got := regex.Match(x.r, s); got != x.want {
			t.Errorf("P8.5: Match(%s, %q) is %t", show(x.r), s, got)
		}
	}
}

func TestComposition(t *testing.T) { // P8.5
	random := rand.New(rand.NewSource(6))
	leaves := []api.Regex{set("a"), set("b"), set("ab"), notSet("a"), empty(), none()}
	short := shortStrings("ab", 5)
	for range 400 {
		a, b := randomRegex(random, 1+random.Intn(4), leaves), randomRegex(random, 1+random.Intn(4), leaves)
		for _, s := range short {
			checkComposition(t, a, b, s)
		}
	}
}

// Match, Nullable and Derive agree: r matches b followed by t if and only if the derivative by b matches t.
func TestDerivativesCompose(t *testing.T) { // P8.5
	random := rand.New(rand.NewSource(7))
	for range 2000 {
		r := randomRegex(random, 1+random.Intn(5), printableLeaves())
		s := ""
		for range random.Intn(12) {
			s += string("aabb*\nc"[random.Intn(7)])
		}
		want := regex.Match(r, s)
		for i := range len(s) + 1 {
			d := derivative(r, s[:i])
			if regex.Match(d, s[i:]) != want {
				t.Errorf("P8.5: %s and %q: other matches behind byte %d", show(r), s, i)
			}
		}
		if regex.Nullable(derivative(r, s)) != want {
			t.Errorf("P8.5: %s and %q: the derivative is nullable: %t", show(r), s, !want)
		}
	}
}
