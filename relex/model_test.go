package relex_test

import (
	"fmt"
	"math/rand"
	"slices"
	"strings"
	"testing"

	"emendate/api"
	"emendate/dfa"
	"emendate/lexer"
	"emendate/lexspec"
	"emendate/nfa"
	"emendate/regex"
	"emendate/relex"
)

// Automata.

// classes returns the classes by byte: the bytes of the first group have class 1, those of the second class 2, all others class 0.
func classes(groups ...string) []int {
	l := make([]int, 256)
	for i, group := range groups {
		for _, b := range []byte(group) {
			l[b] = i + 1
		}
	}
	return l
}

// compile returns the minimal automaton of some patterns.
func compile(t *testing.T, patterns ...string) api.DFA {
	t.Helper()
	var l []api.Regex
	for _, pattern := range patterns {
		r, at, err := regex.Parse(pattern)
		if err != api.OK {
			t.Fatalf("%q: error %d at %d", pattern, err, at)
		}
		l = append(l, r)
	}
	n, err := nfa.FromRegexes(l)
	if err != api.OK {
		t.Fatalf("%q: error %d", patterns, err)
	}
	d, err := dfa.Determinize(n)
	if err != api.OK {
		t.Fatalf("%q: error %d", patterns, err)
	}
	return dfa.Minimize(d)
}

// words returns the automaton of the chapter's example, with a third kind of token: what stands in parentheses.
func words(t *testing.T) api.DFA {
	t.Helper()
	return compile(t, "[a-z]+", " ", `\([^)]*\)`)
}

// language returns the automaton of a specification like that of a language.
func language(t *testing.T) api.DFA {
	t.Helper()
	d, err := lexspec.Compile(api.LexSpec{Defs: []api.TokenDef{
		{Name: "while", Kind: api.TokenKeyword, Pattern: "while", Sample: "while"},
		{Name: "comment", Kind: api.TokenSkip, Pattern: `/\*([^*]|\*+[^*/])*\*+/`, Sample: "/**/"},
		{Name: "word", Kind: api.TokenPlain, Pattern: "[a-z]+", Sample: "x"},
		{Name: "space", Kind: api.TokenSkip, Pattern: "[ \\n]+", Sample: " "},
		{Name: "num", Kind: api.TokenPlain, Pattern: `[0-9]+(\.[0-9]+)?`, Sample: "0"},
		{Name: "text", Kind: api.TokenPlain, Pattern: `"([^"\\\n]|\\.)*"`, Sample: `""`, Close: `"`},
		{Name: "op", Kind: api.TokenPlain, Pattern: `[+*/<=]|<=|\.\.\.`, Sample: "+"},
	}, Layout: true})
	if err != api.OK {
		t.Fatalf("error %d", err)
	}
	return d
}

// copyOf returns d in memory of its own.
func copyOf(d api.DFA) api.DFA {
	d.Class, d.Next, d.Accept = slices.Clone(d.Class), slices.Clone(d.Next), slices.Clone(d.Accept)
	for i := range d.Next {
		d.Next[i] = slices.Clone(d.Next[i])
	}
	return d
}

func equalAutomata(a, b api.DFA) bool {
	return slices.Equal(a.Class, b.Class) && slices.EqualFunc(a.Next, b.Next, slices.Equal[[]int]) && slices.Equal(a.Accept, b.Accept)
}

// show writes an automaton without the bytes of class 0 and what is beyond reading.
func show(d api.DFA) string {
	class := map[string]int{}
	for b, c := range d.Class {
		if c != 0 {
			class[fmt.Sprintf("%q", string([]byte{byte(b)}))] = c
		}
	}
	return fmt.Sprintf("%.600s", fmt.Sprint("{", class, d.Next, d.Accept, "}"))
}

// smallAutomata returns all automata of two states that tell the byte a from the others, with the number 0 or none for a state.
func smallAutomata() []api.DFA {
	l := []api.DFA{{Class: classes("a")}}
	for range 2 {
		var longer []api.DFA
		for _, d := range l {
			for i := range 18 {
				row := []int{i%3 - 1, i/3%3 - 1}
				longer = append(longer, api.DFA{Class: d.Class, Next: append(slices.Clone(d.Next), row), Accept: append(slices.Clone(d.Accept), i/9-1)})
			}
		}
		l = longer
	}
	return l
}

// randomDFA returns a valid automaton with at most the given numbers of states and classes. Many of its states are not live, and its start state may accept.
func randomDFA(random *rand.Rand, states, classes int) api.DFA {
	states, classes = 1+random.Intn(states), 1+random.Intn(classes)
	d := api.DFA{}
	for range 256 {
		d.Class = append(d.Class, random.Intn(classes))
	}
	missing, most, rare := random.Intn(4), random.Intn(3), 1+random.Intn(4)
	for range states {
		var row []int
		for range classes {
			row = append(row, max(-1, random.Intn(states+missing)-missing))
		}
		number := -1
		if random.Intn(rare) == 0 {
			number = random.Intn(most + 1)
		}
		d.Next, d.Accept = append(d.Next, row), append(d.Accept, number)
	}
	return d
}

// Texts and edits.

// allStrings returns all strings of the given bytes up to a length.
func allStrings(bytes string, length int) []string {
	all, last := []string{""}, []string{""}
	for range length {
		var longer []string
		for _, s := range last {
			for i := range len(bytes) {
				longer = append(longer, s+bytes[i:i+1])
			}
		}
		all, last = append(all, longer...), longer
	}
	return all
}

// randomText returns a text of less than the given number of bytes.
func randomText(random *rand.Rand, length int) string {
	var s []byte
	for range random.Intn(length) {
		s = append(s, "aaaabbbb\x00\xffc"[random.Intn(11)])
	}
	return string(s)
}

// randomProgram returns a text like those of the specification language, with less than the given number of parts.
func randomProgram(random *rand.Rand, parts int) string {
	l := []string{"while", "whil", "x", " ", "\n", "1", ".", "..", "2.5", `"`, `\`, "/*", "*/", "*", "/", "<", "=", "<=", "?", "\xff", "\x00", "é"}
	var s strings.Builder
	for range random.Intn(parts) {
		s.WriteString(l[random.Intn(len(l))])
	}
	return s.String()
}

// randomEdit returns an edit that fits s; most of them delete little.
func randomEdit(random *rand.Rand, s, ins string) api.Edit {
	at := random.Intn(len(s) + 1)
	del := len(s) - at
	if random.Intn(4) > 0 {
		del = min(del, random.Intn(4))
	} else {
		del = random.Intn(del + 1)
	}
	return api.Edit{At: at, Del: del, Ins: ins}
}

// ranges returns all edits that fit s, each of them with every one of the given insertions.
func ranges(s string, insertions ...string) []api.Edit {
	var l []api.Edit
	for at := range len(s) + 1 {
		for del := range len(s) - at + 1 {
			for _, ins := range insertions {
				l = append(l, api.Edit{At: at, Del: del, Ins: ins})
			}
		}
	}
	return l
}

func edited(s string, e api.Edit) string { return s[:e.At] + e.Ins + s[e.At+e.Del:] }

// eachEdit calls f with many automata, texts, and edits that fit.
func eachEdit(t *testing.T, f func(d api.DFA, s string, e api.Edit)) {
	t.Helper()
	random := rand.New(rand.NewSource(3))
	for range 3000 {
		d := randomDFA(random, 6, 4)
		for range 6 {
			s := randomText(random, 16)
			f(d, s, randomEdit(random, s, randomText(random, 6)))
		}
	}
	d := language(t)
	for range 6000 {
		s := randomProgram(random, 20)
		f(d, s, randomEdit(random, s, randomProgram(random, 4)))
	}
}

// The model.

// follow returns the state of d behind s, or -1 if there is none.
func follow(d api.DFA, s string) int {
	state := 0
	for i := 0; i < len(s) && state >= 0; i++ {
		state = d.Next[state][d.Class[s[i]]]
	}
	return state
}

// modelToken returns the token at an offset of s that is not its end, by trying all parts from there.
func modelToken(d api.DFA, s string, at int) api.Token {
	token := api.Token{Kind: -1, At: at, Text: s[at : at+1], Look: len(s) - at + 1}
	for end := len(s); end > at; end-- {
		state := follow(d, s[at:end])
		if state < 0 {
			token.Look = end - at // the shortest part without a state ends with the byte without a transition
		} else if token.Kind < 0 && d.Accept[state] >= 0 {
			token.Kind, token.Text = d.Accept[state], s[at:end]
		}
	}
	return token
}

// modelLex returns the tokens of s from the offset at on.
func modelLex(d api.DFA, s string, at int) []api.Token {
	var l []api.Token
	for at < len(s) {
		l = append(l, modelToken(d, s, at))
		at += len(l[len(l)-1].Text)
	}
	return l
}

// starts returns the token starts of a list whose first token is at the given offset.
func starts(l []api.Token, at int) []int {
	all := []int{at}
	for _, token := range l {
		at += len(token.Text)
		all = append(all, at)
	}
	return all
}

// text returns the text of a list.
func text(l []api.Token) string { return strings.Join(texts(l), "") }

func texts(l []api.Token) []string {
	var all []string
	for _, token := range l {
		all = append(all, token.Text)
	}
	return all
}

// model returns what the chapter's definitions say of an edit that fits.
func model(d api.DFA, old []api.Token, e api.Edit) ([]api.Token, api.Change) {
	from := 0
	for from < len(old) && old[from].At+old[from].Look <= e.At {
		from++
	}
	oldStarts := starts(old, 0)
	between := modelLex(d, edited(text(old), e), oldStarts[from])
	for n, p := range starts(between, oldStarts[from]) {
		i := slices.Index(oldStarts, p-len(e.Ins)+e.Del)
		if p < e.At+len(e.Ins) || i < 0 || oldStarts[i] < e.At+e.Del {
			continue
		}
		l := append(slices.Clone(old[:from]), between[:n]...)
		for _, token := range old[i:] {
			token.At += len(e.Ins) - e.Del
			l = append(l, token)
		}
		return l, api.Change{From: from, Old: i - from, New: n}
	}
	panic("the end is a token start")
}

func checkUpdate(t *testing.T, d api.DFA, s string, e api.Edit) {
	t.Helper()
	old := lexer.Lex(d, s)
	want, change := model(d, old, e)
	if got, c, err := relex.Update(d, old, e); err != api.OK || c != change || !slices.Equal(got, want) {
		t.Errorf("P13.1: %s: Update(Lex(%.60q), %+v): %.300s, %+v, %d, want %.300s, %+v", show(d), s, e, fmt.Sprintf("%+v", got), c, err, fmt.Sprintf("%+v", want), change)
	}
}
