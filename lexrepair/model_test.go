package lexrepair_test

import (
	"fmt"
	"math"
	"math/rand"
	"slices"
	"testing"

	"emendate/api"
	"emendate/lexer"
	"emendate/lexspec"
	"emendate/regex"
)

// Specifications.

func plain(name, pattern, sample string) api.TokenDef {
	return api.TokenDef{Name: name, Kind: api.TokenPlain, Pattern: pattern, Sample: sample}
}

func skip(name, pattern, sample string) api.TokenDef {
	return api.TokenDef{Name: name, Kind: api.TokenSkip, Pattern: pattern, Sample: sample}
}

// key returns the definition of a keyword, which is its own pattern.
func key(text string) api.TokenDef {
	return api.TokenDef{Name: text, Kind: api.TokenKeyword, Pattern: text, Sample: text}
}

// closedBy returns d with a closing delimiter.
func closedBy(delimiter string, d api.TokenDef) api.TokenDef {
	d.Close = delimiter
	return d
}

// language returns a specification like that of a language.
func language() api.LexSpec {
	return api.LexSpec{Defs: []api.TokenDef{
		key("if"),
		plain("word", "[a-z]+", "x"),
		key("return_"),
		closedBy("'", plain("char", `'([^'\\\n]|\\.)*'`, "''")),
		closedBy("*/", skip("comment", `/\*([^*]|\*+[^*/])*\*+/`, "/**/")),
		closedBy("'''", plain("long", `'''[a-z \n]*'''`, "''''''")),
		plain("text", `"[^"\n]*"`, `""`),
		closedBy(";", plain("either", `'[a-z]*;|@[a-z ]*;`, "@;")),
		skip("space", ` +`, " "),
		skip("line", `\n *`, "\n"),
		key("while_"),
	}, Misspelling: 4, Unclosed: 7}
}

// pool returns definitions of which random specifications are made.
func pool() []api.TokenDef {
	return []api.TokenDef{
		closedBy("'", plain("quoted", `'[^'\n]*'`, "''")),
		closedBy(";", plain("ended", `'[ab ]*;`, "';")),
		closedBy("'''", plain("long", `'''[ab \n]*'''`, "''''''")),
		closedBy("b?", plain("any", `#.*b\?`, "#b?")),
		closedBy("\"", plain("lines", `"[^"]*"`, `""`)),
		closedBy("#", skip("note", `#[^#]*#`, "##")),
		closedBy("c", api.TokenDef{Name: "kc", Kind: api.TokenKeyword, Pattern: "'bc", Sample: "'bc"}),
		plain("word", `[abc]+`, "a"),
		plain("plain", `'a*'`, "'a'"),
		plain("breaks", `;\n*`, ";"),
		skip("space", `[ \n]+`, " "), skip("blank", ` `, " "), skip("line", `\n`, "\n"),
		key("ab"), key("abba"), key("c"), key("cab"), key("bcbc"),
	}
}

// randomSpec returns a valid specification.
func randomSpec(random *rand.Rand) api.LexSpec {
	prices := []int{0, 1, 2, 9, 1000}
	for {
		spec := api.LexSpec{Layout: random.Intn(4) == 0, Misspelling: prices[random.Intn(5)], Unclosed: prices[random.Intn(5)]}
		defs := pool()
		random.Shuffle(len(defs), func(i, j int) { defs[i], defs[j] = defs[j], defs[i] })
		spec.Defs = defs[:1+random.Intn(12)]
		if random.Intn(4) == 0 {
			i := random.Intn(len(spec.Defs))
			spec.Defs[i].Close = []string{"", "'", "a'", "~", "; ;"}[random.Intn(5)]
		}
		if _, err := lexspec.Check(spec); err == api.OK {
			return spec
		}
	}
}

// compile returns the automaton of a valid specification.
func compile(t *testing.T, spec api.LexSpec) api.DFA {
	t.Helper()
	d, err := lexspec.Compile(spec)
	if err != api.OK {
		t.Fatalf("%s: error %d", show(spec), err)
	}
	return d
}

// copyOf returns spec in memory of its own, with room behind its definitions.
func copyOf(spec api.LexSpec) api.LexSpec {
	spare := append(slices.Clone(spec.Defs), plain("spare", "spare", "spare"))
	spec.Defs = spare[:len(spec.Defs)]
	return spec
}

func equalSpecs(a, b api.LexSpec) bool {
	whole := func(l []api.TokenDef) []api.TokenDef { return l[:len(l)+1] }
	return slices.Equal(whole(a.Defs), whole(b.Defs)) && a.Layout == b.Layout && a.Misspelling == b.Misspelling && a.Unclosed == b.Unclosed
}

// show writes a specification without what is beyond reading.
func show(spec api.LexSpec) string { return fmt.Sprintf("%.900s", fmt.Sprintf("%+v", spec)) }

// Strings.

// allStrings returns all strings of at most n of the given bytes, the shorter ones first.
func allStrings(bytes string, n int) []string {
	all := []string{""}
	for i := 0; i < len(all) && len(all[i]) < n; i++ {
		for k := range len(bytes) {
			all = append(all, all[i]+bytes[k:k+1])
		}
	}
	return all
}

// randomString returns at most n of the given bytes.
func randomString(random *rand.Rand, bytes string, n int) string {
	s := make([]byte, random.Intn(n+1))
	for i := range s {
		s[i] = bytes[random.Intn(len(bytes))]
	}
	return string(s)
}

// outcomes returns the strings of at most n of the given bytes that operations make of a, with the least numbers of operations. A script does something with the first byte, or exchanges the first two, and goes on with the others, and it inserts bytes before any of them.
func outcomes(a, bytes string, n int) map[string]int {
	found := map[string]int{}
	add := func(s string, count int) {
		if old, ok := found[s]; len(s) <= n && (!ok || count < old) {
			found[s] = count
		}
	}
	if a == "" {
		add("", 0)
	} else {
		for rest, count := range outcomes(a[1:], bytes, n) {
			add(a[:1]+rest, count)
			add(rest, count+1)
			for k := range len(bytes) {
				add(bytes[k:k+1]+rest, count+1)
			}
		}
	}
	if len(a) > 1 {
		for rest, count := range outcomes(a[2:], bytes, n) {
			add(a[1:2]+a[:1]+rest, count+1)
		}
	}
	for _, s := range allStrings(bytes, n) { // the shorter ones first
		if count, ok := found[s]; ok {
			for k := range len(bytes) {
				add(bytes[k:k+1]+s, count+1)
			}
		}
	}
	return found
}

// modelDistance returns the distance, by what becomes of the first bytes.
func modelDistance(a, b string) int {
	known := map[[2]int]int{}
	var of func(i, j int) int
	of = func(i, j int) int {
		if n, ok := known[[2]int{i, j}]; ok {
			return n
		}
		n := math.MaxInt
		if i == len(a) && j == len(b) {
			n = 0
		}
		if i < len(a) {
			n = min(n, of(i+1, j)+1)
		}
		if j < len(b) {
			n = min(n, of(i, j+1)+1)
		}
		if i < len(a) && j < len(b) {
			step := 1
			if a[i] == b[j] {
				step = 0
			}
			n = min(n, of(i+1, j+1)+step)
		}
		if i+1 < len(a) && j+1 < len(b) && a[i] == b[j+1] && a[i+1] == b[j] {
			n = min(n, of(i+2, j+2)+1)
		}
		known[[2]int{i, j}] = n
		return n
	}
	return of(0, 0)
}

// Tokens.

// modelClosable reports whether s is closable by a definition.
func modelClosable(spec api.LexSpec, def api.TokenDef, s string) bool {
	r, _, err := regex.Parse(def.Pattern)
	return spec.Unclosed > 0 && def.Kind != api.TokenSkip && def.Close != "" && err == api.OK && regex.Match(r, s+def.Close)
}

// lineRest returns the text of the tokens of l up to, and not including, the first line feed.
func lineRest(l []api.Token) string {
	var rest []byte
	for _, token := range l {
		for i := range len(token.Text) {
			if token.Text[i] == '\n' {
				return string(rest)
			}
			rest = append(rest, token.Text[i])
		}
	}
	return string(rest)
}

// modelToken returns what Merge makes of the first tokens of l, and their number.
func modelToken(spec api.LexSpec, l []api.Token) (api.Token, int) {
	rest := lineRest(l)
	for n := 1; n <= len(l) && l[0].Kind == -1; n++ {
		if lexer.Text(l[:n]) != rest || !slices.ContainsFunc(spec.Defs, func(def api.TokenDef) bool { return modelClosable(spec, def, rest) }) {
			continue
		}
		token, before := api.Token{Kind: -1, At: l[0].At, Text: rest, Look: l[0].Look}, 0
		for _, x := range l[:n] {
			token.Look = max(token.Look, before+x.Look)
			before += len(x.Text)
		}
		return token, n
	}
	return l[0], 1
}

func modelMerge(spec api.LexSpec, l []api.Token) []api.Token {
	var merged []api.Token
	for len(l) > 0 {
		token, n := modelToken(spec, l)
		merged, l = append(merged, token), l[n:]
	}
	return merged
}

func modelConfusions(spec api.LexSpec, t api.Token) []api.Confusion {
	var l []api.Confusion
	isPlain := t.Kind >= 0 && t.Kind < len(spec.Defs) && spec.Defs[t.Kind].Kind == api.TokenPlain
	for kind, def := range spec.Defs {
		if t.Kind == -1 && modelClosable(spec, def, t.Text) {
			l = append(l, api.Confusion{Kind: kind, Price: spec.Unclosed})
		}
		if isPlain && spec.Misspelling > 0 && def.Kind == api.TokenKeyword {
			if n := modelDistance(t.Text, def.Sample); n > 0 && n < 3 {
				l = append(l, api.Confusion{Kind: kind, Price: n * spec.Misspelling})
			}
		}
	}
	return l
}

func texts(l []api.Token) []string {
	var s []string
	for _, token := range l {
		s = append(s, token.Text)
	}
	return s
}

// sequence returns tokens each of which begins where the one before it ends.
func sequence(at int, l ...api.Token) []api.Token {
	l = slices.Clone(l)
	for i := range l {
		l[i].At = at
		at += len(l[i].Text)
	}
	return l
}

// randomTokens returns a sequence of tokens of which most could not be made by the lexer.
func randomTokens(random *rand.Rand, spec api.LexSpec) []api.Token {
	pieces := []string{"", "", "'", "'", "'a", "b", "'b", "ab", ";", "'''", "#", "\"", " ", "\n", "\n", " \n", "\n ", "a\nb", "'\n", "\xff", "\x00'"}
	var l []api.Token
	for range random.Intn(9) {
		token := api.Token{Kind: -1, Text: pieces[random.Intn(len(pieces))], Look: random.Intn(9) - 1}
		if random.Intn(3) == 0 {
			token.Kind = random.Intn(len(spec.Defs)+5) - 2
		}
		l = append(l, token)
	}
	return sequence([]int{0, 0, 5, -7, math.MinInt, math.MaxInt - 100}[random.Intn(6)], l...)
}

// eachCase calls f with valid specifications and token sequences, of which one half is made by the lexer.
func eachCase(t *testing.T, f func(spec api.LexSpec, l []api.Token)) {
	t.Helper()
	random := rand.New(rand.NewSource(1))
	for range 300 {
		spec := randomSpec(random)
		d := compile(t, spec)
		for range 20 {
			f(spec, lexer.Lex(d, randomString(random, "ab' ;\n\"#?c'a\xff", 14)))
			f(spec, randomTokens(random, spec))
		}
	}
	spec := language()
	d := compile(t, spec)
	for range 1500 {
		f(spec, lexer.Lex(d, randomString(random, "ax' ;\n\"/*?'@ \\", 16)))
		f(spec, randomTokens(random, spec))
	}
}
