package lexer_test

import (
	"fmt"
	"math/rand"
	"slices"
	"strings"
	"testing"

	"emendate/api"
	"emendate/dfa"
	"emendate/lexer"
	"emendate/lexspec"
	"emendate/nfa"
	"emendate/regex"
)

// Automata.

// classes returns the classes by byte: the bytes of the first group have class 1, those of the second class 2, all others class 0.
func classes(groups ...string) []int {
	l := make([]int, 256)
	for i, group := range groups {
		for _, b := range []byte(group) {
			l[b] = i + 1
		}
	}
	return l
}

// automaton returns an automaton with the given classes, accepted numbers and rows.
func automaton(class []int, accept []int, rows ...[]int) api.DFA {
	return api.DFA{Class: class, Next: rows, Accept: accept}
}

// bytewise returns an automaton in which each byte has a class of its own, from state 0 each byte leads to a state that accepts its own number, and from there nowhere.
func bytewise() api.DFA {
	d := api.DFA{Accept: []int{-1}, Next: [][]int{nil}}
	for b := range 256 {
		d.Class = append(d.Class, b)
		d.Accept = append(d.Accept, b)
		d.Next[0] = append(d.Next[0], b+1)
		d.Next = append(d.Next, slices.Repeat([]int{-1}, 256))
	}
	return d
}

// ring returns an automaton whose states are passed one after the other, on a; each of them accepts its number.
func ring(states int) api.DFA {
	d := api.DFA{Class: classes("a")}
	for i := range states {
		d.Next = append(d.Next, []int{-1, (i + 1) % states})
		d.Accept = append(d.Accept, i)
	}
	return d
}

// compile returns the minimal automaton of some patterns.
func compile(t *testing.T, patterns ...string) api.DFA {
	t.Helper()
	var l []api.Regex
	for _, pattern := range patterns {
		r, at, err := regex.Parse(pattern)
		if err != api.OK {
			t.Fatalf("%q: error %d at %d", pattern, err, at)
		}
		l = append(l, r)
	}
	n, err := nfa.FromRegexes(l)
	if err != api.OK {
		t.Fatalf("%q: error %d", patterns, err)
	}
	d, err := dfa.Determinize(n)
	if err != api.OK {
		t.Fatalf("%q: error %d", patterns, err)
	}
	return dfa.Minimize(d)
}

// language returns a specification like that of a language, and its automaton.
func language(t *testing.T) (api.LexSpec, api.DFA) {
	t.Helper()
	spec := api.LexSpec{Defs: []api.TokenDef{
		{Name: "while", Kind: api.TokenKeyword, Pattern: "while", Sample: "while"},
		{Name: "comment", Kind: api.TokenSkip, Pattern: `/\*([^*]|\*+[^*/])*\*+/`, Sample: "/**/"},
		{Name: "word", Kind: api.TokenPlain, Pattern: "[a-z]+", Sample: "x"},
		{Name: "space", Kind: api.TokenSkip, Pattern: "[ \\n]+", Sample: " "},
		{Name: "num", Kind: api.TokenPlain, Pattern: `[0-9]+(\.[0-9]+)?`, Sample: "0"},
		{Name: "text", Kind: api.TokenPlain, Pattern: `"([^"\\\n]|\\.)*"`, Sample: `""`, Close: `"`},
		{Name: "op", Kind: api.TokenPlain, Pattern: `[+*/<=]|<=|\.\.\.`, Sample: "+"},
	}}
	d, err := lexspec.Compile(spec)
	if err != api.OK {
		t.Fatalf("error %d", err)
	}
	return spec, d
}

// copyOf returns d in memory of its own.
func copyOf(d api.DFA) api.DFA {
	d.Class, d.Next, d.Accept = slices.Clone(d.Class), slices.Clone(d.Next), slices.Clone(d.Accept)
	for i := range d.Next {
		d.Next[i] = slices.Clone(d.Next[i])
	}
	return d
}

func equalAutomata(a, b api.DFA) bool {
	return slices.Equal(a.Class, b.Class) && slices.EqualFunc(a.Next, b.Next, slices.Equal[[]int]) && slices.Equal(a.Accept, b.Accept)
}

// show writes an automaton without the bytes of class 0 and what is beyond reading.
func show(d api.DFA) string {
	class := map[string]int{}
	for b, c := range d.Class {
		if c != 0 {
			class[fmt.Sprintf("%q", string([]byte{byte(b)}))] = c
		}
	}
	return fmt.Sprintf("%.600s", fmt.Sprint("{", class, d.Next, d.Accept, "}"))
}

// smallAutomata returns all automata with the given classes, number of states and of classes, and greatest accepted number.
func smallAutomata(class []int, states, classes, most int) []api.DFA {
	l := []api.DFA{{Class: class}}
	for range states {
		var longer []api.DFA
		for _, d := range l {
			for _, row := range lists(classes, states-1) {
				for number := -1; number <= most; number++ {
					longer = append(longer, api.DFA{Class: class, Next: append(slices.Clone(d.Next), row), Accept: append(slices.Clone(d.Accept), number)})
				}
			}
		}
		l = longer
	}
	return l
}

// lists returns all lists of the given length of numbers from -1 to most.
func lists(length, most int) [][]int {
	l := [][]int{nil}
	for range length {
		var longer [][]int
		for _, x := range l {
			for number := -1; number <= most; number++ {
				longer = append(longer, append(slices.Clone(x), number))
			}
		}
		l = longer
	}
	return l
}

// randomDFA returns a valid automaton with at most the given numbers of states and classes. Many of its states are not live, and its start state may accept.
func randomDFA(random *rand.Rand, states, classes int) api.DFA {
	states, classes = 1+random.Intn(states), 1+random.Intn(classes)
	d := api.DFA{}
	for range 256 {
		d.Class = append(d.Class, random.Intn(classes))
	}
	missing, most, rare := random.Intn(4), random.Intn(3), 1+random.Intn(4)
	for range states {
		var row []int
		for range classes {
			row = append(row, max(-1, random.Intn(states+missing)-missing))
		}
		number := -1
		if random.Intn(rare) == 0 {
			number = random.Intn(most + 1)
		}
		d.Next, d.Accept = append(d.Next, row), append(d.Accept, number)
	}
	return d
}

// Texts.

// allStrings returns all strings of the given bytes up to a length.
func allStrings(bytes string, length int) []string {
	all, last := []string{""}, []string{""}
	for range length {
		var longer []string
		for _, s := range last {
			for i := range len(bytes) {
				longer = append(longer, s+bytes[i:i+1])
			}
		}
		all, last = append(all, longer...), longer
	}
	return all
}

// randomText returns a text of less than the given number of bytes.
func randomText(random *rand.Rand, length int) string {
	var s []byte
	for range random.Intn(length) {
		s = append(s, "aaaabbbb\x00\xffc"[random.Intn(11)])
	}
	return string(s)
}

// randomProgram returns a text like those of the specification language, with less than the given number of parts.
func randomProgram(random *rand.Rand, parts int) string {
	l := []string{"while", "whil", "x", " ", "\n", "1", ".", "..", "2.5", `"`, `\`, "/*", "*/", "*", "/", "<", "=", "<=", "?", "\xff", "\x00", "é"}
	var s strings.Builder
	for range random.Intn(parts) {
		s.WriteString(l[random.Intn(len(l))])
	}
	return s.String()
}

// Tokens.

// A piece is a token without its offset.
type piece struct {
	text       string
	kind, look int
}

// tokens returns the tokens that the pieces are if each one starts where the one before it ends.
func tokens(pieces ...piece) []api.Token {
	var l []api.Token
	at := 0
	for _, p := range pieces {
		l = append(l, api.Token{Kind: p.kind, At: at, Text: p.text, Look: p.look})
		at += len(p.text)
	}
	return l
}

// follow returns the state of d behind s, or -1 if there is none.
func follow(d api.DFA, s string) int {
	state := 0
	for i := 0; i < len(s) && state >= 0; i++ {
		state = d.Next[state][d.Class[s[i]]]
	}
	return state
}

// modelToken returns the first token of a text that is not empty, by trying all of its beginnings.
func modelToken(d api.DFA, s string) piece {
	p := piece{s[:1], -1, len(s) + 1}
	for length := len(s); length > 0; length-- {
		state := follow(d, s[:length])
		if state < 0 {
			p.look = length // the shortest beginning without a state ends with the byte without a transition
		} else if p.kind < 0 && d.Accept[state] >= 0 {
			p.text, p.kind = s[:length], d.Accept[state]
		}
	}
	return p
}

// model returns the tokens of s.
func model(d api.DFA, s string) []api.Token {
	var l []piece
	for s != "" {
		p := modelToken(d, s)
		l = append(l, p)
		s = s[len(p.text):]
	}
	return tokens(l...)
}

func checkLex(t *testing.T, d api.DFA, s string, want []api.Token) {
	t.Helper()
	if got := lexer.Lex(d, s); !slices.Equal(got, want) {
		t.Errorf("P12.1: %s: Lex(%.60q): %.300s, want %.300s", show(d), s, fmt.Sprintf("%+v", got), fmt.Sprintf("%+v", want))
	}
}

// eachLexed calls f with many automata, texts, and the tokens of the texts.
func eachLexed(t *testing.T, f func(d api.DFA, s string, l []api.Token)) {
	t.Helper()
	random := rand.New(rand.NewSource(3))
	for range 3000 {
		d := randomDFA(random, 6, 4)
		for range 4 {
			s := randomText(random, 12)
			f(d, s, lexer.Lex(d, s))
		}
	}
	_, d := language(t)
	for range 3000 {
		s := randomProgram(random, 12)
		f(d, s, lexer.Lex(d, s))
	}
}
