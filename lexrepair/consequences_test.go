package lexrepair_test

import (
	"math/rand"
	"slices"
	"testing"

	"emendate/api"
	"emendate/lexer"
	"emendate/lexrepair"
)

// eachPair calls f with many pairs of strings.
func eachPair(f func(a, b string)) {
	for _, a := range allStrings("ab", 4) {
		for _, b := range allStrings("abc", 3) {
			f(a, b)
		}
	}
	random := rand.New(rand.NewSource(4))
	for range 5000 {
		bytes := []string{"ab", "abc", "abcdefgh", "\x00\x80\xff\n a"}[random.Intn(4)]
		a := randomString(random, bytes, 16)
		f(a, randomString(random, bytes, 16))
		f(a, a)
	}
}

func TestDistancesAreSymmetric(t *testing.T) { // P14.4
	eachPair(func(a, b string) {
		if n, m := lexrepair.Distance(a, b), lexrepair.Distance(b, a); n != m {
			t.Errorf("P14.4: %q, %q: %d, and %d in the other order", a, b, n, m)
		}
	})
}

func TestBoundsOfDistances(t *testing.T) { // P14.4
	eachPair(func(a, b string) {
		n := lexrepair.Distance(a, b)
		if (n == 0) != (a == b) {
			t.Errorf("P14.4: %q, %q: %d", a, b, n)
		}
		if n < len(a)-len(b) || n < len(b)-len(a) || n > max(len(a), len(b)) {
			t.Errorf("P14.4: %q, %q: %d is beyond the bounds by the lengths", a, b, n)
		}
	})
}

// What two strings have in common at an end makes no difference.
func TestDistancesOfPrefixesAndSuffixes(t *testing.T) { // P14.4
	eachPair(func(a, b string) {
		n := lexrepair.Distance(a, b)
		for _, s := range []string{"x", "a", "ab", "\n\xff"} {
			if m := lexrepair.Distance(s+a, s+b); m > n {
				t.Errorf("P14.4: %q, %q: %d, and %d behind %q", a, b, n, m, s)
			}
			if m := lexrepair.Distance(a+s, b+s); m > n {
				t.Errorf("P14.4: %q, %q: %d, and %d before %q", a, b, n, m, s)
			}
		}
	})
}

func TestMergeKeepsTheText(t *testing.T) { // P14.4
	eachCase(t, func(spec api.LexSpec, l []api.Token) {
		merged := lexrepair.Merge(spec, l)
		if got, want := lexer.Text(merged), lexer.Text(l); got != want || len(merged) > len(l) {
			t.Errorf("P14.4: %s: %+v has the text %q, and %+v has %q", show(spec), l, want, merged, got)
		}
		for i, token := range merged {
			if i > 0 && token.At != merged[i-1].At+len(merged[i-1].Text) || i == 0 && token.At != l[0].At {
				t.Errorf("P14.4: %s: %+v: token %d of %+v is at another place", show(spec), l, i, merged)
			}
		}
	})
}

func TestMergingTwice(t *testing.T) { // P14.4
	eachCase(t, func(spec api.LexSpec, l []api.Token) {
		once := lexrepair.Merge(spec, l)
		if twice := lexrepair.Merge(spec, once); !slices.Equal(once, twice) {
			t.Errorf("P14.4: %s: %+v: %+v, and then %+v", show(spec), l, once, twice)
		}
	})
}

func TestMergedTokensHaveConfusions(t *testing.T) { // P14.4
	created := 0
	eachCase(t, func(spec api.LexSpec, l []api.Token) {
		for _, token := range lexrepair.Merge(spec, l) {
			if slices.Contains(l, token) {
				continue
			}
			created++
			confusions := lexrepair.Confusions(spec, token)
			if token.Kind != api.KindError || len(confusions) == 0 || confusions[0].Price != spec.Unclosed {
				t.Errorf("P14.4: %s: %+v: the merged token %+v has the confusions %+v", show(spec), l, token, confusions)
			}
		}
	})
	if created < 1500 {
		t.Errorf("P14.4: only %d merged tokens", created)
	}
}

func TestConfusionsAreOtherKinds(t *testing.T) { // P14.4
	found := 0
	eachToken(t, func(spec api.LexSpec, token api.Token) {
		l := lexrepair.Confusions(spec, token)
		found += len(l)
		for i, confusion := range l {
			if confusion.Kind == token.Kind || confusion.Kind < 0 || confusion.Kind >= len(spec.Defs) || spec.Defs[confusion.Kind].Kind == api.TokenSkip {
				t.Errorf("P14.4: %s: %+v may be read as %+v", show(spec), token, l)
			}
			if i > 0 && confusion.Kind <= l[i-1].Kind || confusion.Price <= 0 {
				t.Errorf("P14.4: %s: %+v: the order or a price of %+v", show(spec), token, l)
			}
		}
	})
	if found < 3000 {
		t.Errorf("P14.4: only %d confusions", found)
	}
}
