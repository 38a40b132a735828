package lexspec_test

import (
	"math/rand"
	"slices"
	"testing"

	"emendate/api"
	"emendate/dfa"
	"emendate/lexspec"
	"emendate/regex"
)

func TestSamplesAreTokens(t *testing.T) { // P11.4
	eachValidSpec(t, func(spec api.LexSpec) {
		d := compile(t, spec)
		for i := range spec.Defs {
			sample := lexspec.Sample(spec, i)
			if sample == "" {
				t.Errorf("P11.4: %s: sample %d is empty", show(spec), i)
			}
			longest := 0 // the length of the longest token with which the sample begins
			for length := range len(sample) + 1 {
				if dfa.Run(d, sample[:length]) >= 0 {
					longest = length
				}
			}
			if kind := dfa.Run(d, sample); longest != len(sample) || kind != i {
				t.Errorf("P11.4: %s: sample %d begins with a token of %d bytes and is of kind %d", show(spec), i, longest, kind)
			}
			if !regex.Match(parse(t, spec.Defs[i].Pattern), sample) {
				t.Errorf("P11.4: %s: sample %d does not match its pattern", show(spec), i)
			}
		}
	})
}

func TestEmptyStringIsNoToken(t *testing.T) { // P11.4
	eachValidSpec(t, func(spec api.LexSpec) {
		d := compile(t, spec)
		if kind := dfa.Run(d, ""); kind != -1 || d.Accept[0] != -1 {
			t.Errorf("P11.4: %s: the kind of the empty string is %d, and state 0 accepts %d", show(spec), kind, d.Accept[0])
		}
	})
}

func TestRunsYieldKinds(t *testing.T) { // P11.4
	random := rand.New(rand.NewSource(4))
	eachValidSpec(t, func(spec api.LexSpec) {
		d, patterns := compile(t, spec), parseAll(t, spec)
		l := allStrings("ab", 5)
		for i := range spec.Defs { // samples, with a byte more, less or changed
			s := []byte(lexspec.Sample(spec, i))
			at := random.Intn(len(s))
			l = append(l, string(s), string(s[1:]), string(s[:len(s)-1]), string(s)+"a", "b"+string(s), string(slices.Concat(s, s)))
			s[at] = byte(random.Intn(256))
			l = append(l, string(s))
		}
		for range 20 {
			var s []byte
			for range random.Intn(8) {
				s = append(s, pick(random, []byte("abab\"\\#=<019.fiwhle \n\x00\xff_")...))
			}
			l = append(l, string(s))
		}
		for _, s := range l {
			if got, want := dfa.Run(d, s), kindOf(patterns, s); got != want {
				t.Errorf("P11.4: %s: the run on %q: %d, want %d", show(spec), s, got, want)
			}
		}
	})
}
