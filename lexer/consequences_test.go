package lexer_test

import (
	"math/rand"
	"strings"
	"testing"

	"emendate/api"
	"emendate/dfa"
	"emendate/lexer"
)

func TestTextsConcatenate(t *testing.T) { // P12.3
	eachLexed(t, func(d api.DFA, s string, l []api.Token) {
		at := 0
		var text strings.Builder
		for _, token := range l {
			if token.Text == "" {
				t.Errorf("P12.3: %s: Lex(%q) has an empty token: %+v", show(d), s, l)
			}
			if token.At != at {
				t.Errorf("P12.3: %s: Lex(%q): %+v is not at %d", show(d), s, token, at)
			}
			at += len(token.Text)
			text.WriteString(token.Text)
		}
		if text.String() != s || lexer.Text(l) != s {
			t.Errorf("P12.3: %s: Lex(%q) has the text %q", show(d), s, text.String())
		}
	})
}

func TestErrorTokensBeginNoMatch(t *testing.T) { // P12.3
	errors, others := 0, 0
	eachLexed(t, func(d api.DFA, s string, l []api.Token) {
		for _, token := range l {
			matches := false // whether the automaton accepts a nonempty part that starts there
			for end := token.At + 1; end <= len(s); end++ {
				matches = matches || dfa.Run(d, s[token.At:end]) >= 0
			}
			if matches != (token.Kind != api.KindError) || token.Kind < -1 {
				t.Errorf("P12.3: %s: Lex(%q) has %+v, and %t that a part matches there", show(d), s, token, matches)
			}
			if token.Kind == api.KindError {
				errors++
			} else {
				others++
			}
		}
	})
	if errors < 5000 || others < 5000 {
		t.Errorf("P12.3: only %d error tokens and %d others", errors, others)
	}
}

// tokenAt returns the token of l at an offset, if there is one.
func tokenAt(l []api.Token, at int) (api.Token, bool) {
	for _, token := range l {
		if token.At == at {
			return token, true
		}
	}
	return api.Token{}, false
}

// A rest of another length or with other bytes beyond the positions that a token and those before it examined does not matter to them.
func TestRestDoesNotMatter(t *testing.T) { // P12.3
	random := rand.New(rand.NewSource(5))
	kept := 0
	eachLexed(t, func(d api.DFA, s string, l []api.Token) {
		seen := 0
		for i, token := range l {
			seen = max(seen, token.At+token.Look)
			if seen > len(s) {
				return // the end was examined
			}
			rest := s[seen:]
			for _, other := range []string{"", rest + "a", rest + randomText(random, 6), randomText(random, 6), rest[len(rest)/2:], strings.Repeat("\xff", len(rest))} {
				got := lexer.Lex(d, s[:seen]+other)
				for k, token := range l[:i+1] {
					if len(got) <= k || got[k] != token {
						t.Errorf("P12.3: %s: Lex(%q) has %+v, Lex(%q) %+v", show(d), s, token, s[:seen]+other, got)
						return
					}
				}
				kept++
			}
		}
	})
	if kept < 10000 {
		t.Errorf("P12.3: only %d texts with another rest", kept)
	}
}

// Nothing before a token, and nothing beyond its Look positions, changes what is recognized at its offset.
func TestOnlyExaminedPositionsMatter(t *testing.T) { // P12.3
	random := rand.New(rand.NewSource(6))
	same, ends := 0, 0
	eachLexed(t, func(d api.DFA, s string, l []api.Token) {
		for _, token := range l {
			end, part := token.At+token.Look, ""
			toEnd := end == len(s)+1
			if end > len(s)+1 {
				t.Errorf("P12.3: %s: Lex(%q): %+v looks beyond the end", show(d), s, token)
				continue
			}
			if part = s[token.At:]; !toEnd {
				part = s[token.At:end] + randomText(random, 5)
			}
			other := randomText(random, token.At+1)
			other += strings.Repeat("b", token.At-len(other)) + part
			if got, found := tokenAt(lexer.Lex(d, other), token.At); found {
				same++
				if toEnd {
					ends++
				}
				if got != token {
					t.Errorf("P12.3: %s: Lex(%q) has %+v, Lex(%q) %+v", show(d), s, token, other, got)
				}
			}
			token.At = 0 // at the start of a text there always is a token
			if got := lexer.Lex(d, part); got[0] != token {
				t.Errorf("P12.3: %s: Lex(%q) has, elsewhere, %+v, Lex(%q) %+v", show(d), s, token, part, got[0])
			}
		}
	})
	if same < 10000 || ends < 3000 {
		t.Errorf("P12.3: only %d tokens at the same offset, %d of them that examined the end", same, ends)
	}
}

// Each of the Look positions of a token was examined: where the text ends before the last of them, its end is examined instead.
func TestLookIsNotTooFar(t *testing.T) { // P12.3
	eachLexed(t, func(d api.DFA, s string, l []api.Token) {
		for _, token := range l {
			for look := 1; look < token.Look; look++ {
				got := lexer.Lex(d, s[token.At:token.At+look])[0]
				if got.Look != look+1 {
					t.Errorf("P12.3: %s: Lex(%q) has %+v, but of %d bytes from there %+v", show(d), s, token, look, got)
				}
			}
		}
	})
}
