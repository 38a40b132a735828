package relex_test

import (
	"math/rand"
	"slices"
	"strings"
	"testing"

	"emendate/api"
	"emendate/lexer"
	"emendate/relex"
	"emendate/textedit"
)

// update returns the tokens of s after an edit that fits, once they are known to be those of the new text.
func update(t *testing.T, d api.DFA, old []api.Token, e api.Edit) ([]api.Token, api.Change) {
	t.Helper()
	s := edited(text(old), e)
	got, change, err := relex.Update(d, old, e)
	if want := lexer.Lex(d, s); err != api.OK || !slices.Equal(got, want) {
		t.Errorf("P13.2: %s: %q, %+v: %+v, %d, want %+v", show(d), text(old), e, got, err, want)
	}
	return got, change
}

func TestUpdatingIsScanning(t *testing.T) { // P13.2
	eachEdit(t, func(d api.DFA, s string, e api.Edit) { update(t, d, lexer.Lex(d, s), e) })
	for _, d := range smallAutomata() {
		for _, s := range allStrings("ab", 3) {
			for _, e := range ranges(s, "", "a", "bab") {
				update(t, d, lexer.Lex(d, s), e)
			}
		}
	}
}

func TestRetainedTokens(t *testing.T) { // P13.2
	before, behind := 0, 0
	eachEdit(t, func(d api.DFA, s string, e api.Edit) {
		old := lexer.Lex(d, s)
		got, c := update(t, d, old, e)
		if c.From < 0 || c.Old < 0 || c.New < 0 || c.From+c.Old > len(old) || c.From+c.New > len(got) || len(got)-c.New != len(old)-c.Old {
			t.Errorf("P13.2: %s: %q, %+v: %d tokens before, %d behind, %+v", show(d), s, e, len(old), len(got), c)
			return
		}
		if !slices.Equal(got[:c.From], old[:c.From]) {
			t.Errorf("P13.2: %s: %q, %+v: the first %d tokens are changed", show(d), s, e, c.From)
		}
		for i, token := range old[c.From+c.Old:] {
			token.At += len(e.Ins) - e.Del
			if got[c.From+c.New+i] != token {
				t.Errorf("P13.2: %s: %q, %+v, %+v: %+v, want %+v", show(d), s, e, c, got[c.From+c.New+i], token)
			}
		}
		before, behind = before+c.From, behind+len(old)-c.From-c.Old
	})
	if before < 20000 || behind < 20000 {
		t.Errorf("P13.2: only %d tokens before the edits and %d behind", before, behind)
	}
}

func TestSequencesOfEdits(t *testing.T) { // P13.2
	random := rand.New(rand.NewSource(6))
	for range 400 {
		d := randomDFA(random, 6, 4)
		l := lexer.Lex(d, randomText(random, 20))
		for range 30 {
			l, _ = update(t, d, l, randomEdit(random, text(l), randomText(random, 5)))
		}
	}
	d := language(t)
	for range 200 {
		l := lexer.Lex(d, "")
		for range 60 {
			l, _ = update(t, d, l, randomEdit(random, text(l), randomProgram(random, 5)))
		}
	}
}

// A text may be typed and erased byte by byte, from either side.
func TestTyping(t *testing.T) { // P13.2
	d := language(t)
	s := "while x <= 1.5 /* a * b */ \"\\\"\" ... 1..2 \xff é\n\"open /*"
	var l, r []api.Token
	for i := range len(s) {
		l, _ = update(t, d, l, api.Edit{At: i, Ins: s[i : i+1]})
		r, _ = update(t, d, r, api.Edit{Ins: s[len(s)-1-i : len(s)-i]})
	}
	if text(l) != s || text(r) != s || !slices.Equal(l, r) {
		t.Errorf("P13.2: %+v, %+v", l, r)
	}
	for i := range len(s) {
		l, _ = update(t, d, l, api.Edit{At: len(s) - 1 - i, Del: 1})
		r, _ = update(t, d, r, api.Edit{Del: 1})
	}
	if len(l) != 0 || len(r) != 0 {
		t.Errorf("P13.2: %+v, %+v", l, r)
	}
}

func TestEmptyEdits(t *testing.T) { // P13.2
	eachEdit(t, func(d api.DFA, s string, e api.Edit) {
		old := lexer.Lex(d, s)
		got, c := update(t, d, old, api.Edit{At: e.At})
		if !slices.Equal(got, old) || c.Old != c.New {
			t.Errorf("P13.2: %s: %q, the empty edit at %d: %+v, %+v, want %+v", show(d), s, e.At, got, c, old)
		}
	})
	d := words(t)
	s := "ab (c d) ?? ((e"
	for at := range len(s) + 1 {
		if got, _ := update(t, d, lexer.Lex(d, s), api.Edit{At: at}); !slices.Equal(got, lexer.Lex(d, s)) {
			t.Errorf("P13.2: %q, the empty edit at %d: %+v", s, at, got)
		}
	}
}

func TestPartsReplacedByThemselves(t *testing.T) { // P13.2
	eachEdit(t, func(d api.DFA, s string, e api.Edit) {
		e.Ins = strings.Clone(s[e.At : e.At+e.Del])
		old := lexer.Lex(d, s)
		got, c := update(t, d, old, e)
		if !slices.Equal(got, old) || c.Old != c.New {
			t.Errorf("P13.2: %s: %q, %+v: %+v, %+v, want %+v", show(d), s, e, got, c, old)
		}
	})
}

func TestEditsAndTheirInverses(t *testing.T) { // P13.2
	eachEdit(t, func(d api.DFA, s string, e api.Edit) {
		old := lexer.Lex(d, s)
		inverse, err := textedit.Invert(s, e)
		if err != api.OK {
			t.Fatalf("%q, %+v: error %d", s, e, err)
		}
		there, _ := update(t, d, old, e)
		if back, _ := update(t, d, there, inverse); !slices.Equal(back, old) {
			t.Errorf("P13.2: %s: %q, %+v, %+v: %+v, want %+v", show(d), s, e, inverse, back, old)
		}
	})
}

// An edit does with the tokens what its parts do one after the other.
func TestPartsOfEdits(t *testing.T) { // P13.2
	eachEdit(t, func(d api.DFA, s string, e api.Edit) {
		old := lexer.Lex(d, s)
		once, _ := update(t, d, old, e)
		deleted, _ := update(t, d, old, api.Edit{At: e.At, Del: e.Del})
		twice, _ := update(t, d, deleted, api.Edit{At: e.At, Ins: e.Ins})
		inserted, _ := update(t, d, old, api.Edit{At: e.At, Ins: e.Ins})
		again, _ := update(t, d, inserted, api.Edit{At: e.At + len(e.Ins), Del: e.Del})
		if !slices.Equal(once, twice) || !slices.Equal(once, again) {
			t.Errorf("P13.2: %s: %q, %+v: %+v, in parts %+v, %+v", show(d), s, e, once, twice, again)
		}
	})
}
