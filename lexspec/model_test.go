package lexspec_test

import (
	"fmt"
	"math/rand"
	"regexp"
	"slices"
	"strings"
	"testing"

	"emendate/api"
	"emendate/dfa"
	"emendate/lexspec"
	"emendate/nfa"
	"emendate/regex"
)

// Specifications.

func plain(name, pattern, sample string) api.TokenDef {
	return api.TokenDef{Name: name, Kind: api.TokenPlain, Pattern: pattern, Sample: sample}
}

func skip(name, pattern, sample string) api.TokenDef {
	return api.TokenDef{Name: name, Kind: api.TokenSkip, Pattern: pattern, Sample: sample}
}

func keyword(name, pattern, sample string) api.TokenDef {
	return api.TokenDef{Name: name, Kind: api.TokenKeyword, Pattern: pattern, Sample: sample}
}

func of(defs ...api.TokenDef) api.LexSpec { return api.LexSpec{Defs: defs} }

// copyOf returns spec in memory of its own, with room behind its definitions.
func copyOf(spec api.LexSpec) api.LexSpec {
	spare := append(slices.Clone(spec.Defs), plain("spare", "spare", "spare"))
	spec.Defs = spare[:len(spec.Defs)]
	return spec
}

func equalSpecs(a, b api.LexSpec) bool {
	whole := func(l []api.TokenDef) []api.TokenDef { return l[:len(l)+1] }
	return slices.Equal(whole(a.Defs), whole(b.Defs)) && a.Layout == b.Layout && a.Misspelling == b.Misspelling && a.Unclosed == b.Unclosed
}

// show writes a specification without what is beyond reading.
func show(spec api.LexSpec) string { return fmt.Sprintf("%.600s", fmt.Sprintf("%#v", spec)) }

// check compares the results of Check, and the error of Compile.
func check(t *testing.T, spec api.LexSpec, index int, want api.Errno) {
	t.Helper()
	arg := copyOf(spec)
	before := copyOf(spec)
	if i, err := lexspec.Check(arg); i != index || err != want {
		t.Errorf("P11.1: %s: Check: %d and error %d, want %d and error %d", show(spec), i, err, index, want)
	}
	d, err := lexspec.Compile(arg)
	if err != want {
		t.Errorf("P11.2: %s: Compile: error %d, want %d", show(spec), err, want)
	}
	if err != api.OK && (d.Class != nil || d.Next != nil || d.Accept != nil) {
		t.Errorf("P11.2: %s: an automaton together with error %d", show(spec), err)
	}
	if !equalSpecs(arg, before) {
		t.Errorf("P11.1: %s is now %s", show(before), show(arg))
	}
}

// parse returns the pattern of a definition, which must be one.
func parse(t *testing.T, pattern string) api.Regex {
	t.Helper()
	r, at, err := regex.Parse(pattern)
	if err != api.OK {
		t.Fatalf("%q: error %d at %d", pattern, err, at)
	}
	return r
}

// parseAll returns the patterns of all definitions.
func parseAll(t *testing.T, spec api.LexSpec) []api.Regex {
	t.Helper()
	var l []api.Regex
	for _, d := range spec.Defs {
		l = append(l, parse(t, d.Pattern))
	}
	return l
}

// kindOf returns the least index of a pattern that matches s, or -1.
func kindOf(patterns []api.Regex, s string) int {
	return slices.IndexFunc(patterns, func(r api.Regex) bool { return regex.Match(r, s) })
}

// model tells from the conditions of the chapter what Check returns. It tries only short strings over a and b to find out what else a keyword matches.
func model(t *testing.T, spec api.LexSpec) (int, api.Errno) {
	t.Helper()
	count := len(spec.Defs)
	if count == 0 || count > 40 {
		return 0, api.ErrLimit
	}
	taken := map[string]bool{}
	for i, d := range spec.Defs {
		if err := modelOfDefinition(taken, d); err != api.OK {
			return i, err
		}
		taken[d.Name] = true
	}
	if min(spec.Misspelling, spec.Unclosed) < 0 || max(spec.Misspelling, spec.Unclosed) > 1000 {
		return count, api.ErrArg
	}
	patterns := parseAll(t, spec)
	n, err := nfa.FromRegexes(patterns)
	if err == api.ErrLimit {
		return 0, err
	}
	if _, err = dfa.Determinize(n); err == api.ErrLimit {
		return 0, err
	}
	for i, d := range spec.Defs {
		if kindOf(patterns, d.Sample) != i {
			return i, api.ErrMismatch
		}
		other := func(s string) bool { return s != d.Sample && regex.Match(patterns[i], s) }
		if d.Kind == 3 && slices.ContainsFunc(allStrings("ab", 8), other) {
			return i, api.ErrConflict
		}
	}
	return 0, api.OK
}

// modelOfDefinition tells the error of a definition behind others with the given names.
func modelOfDefinition(taken map[string]bool, d api.TokenDef) api.Errno {
	name := regexp.MustCompile(`^[A-Za-z][A-Za-z0-9_]{0,23}$`)
	r, _, err := regex.Parse(d.Pattern)
	switch {
	case !name.MatchString(d.Name), d.Name == "newline", d.Name == "indent", d.Name == "dedent":
		return api.ErrName
	case taken[d.Name]:
		return api.ErrDuplicate
	case d.Kind != 1 && d.Kind != 2 && d.Kind != 3:
		return api.ErrArg
	case err != api.OK:
		return err
	case regex.Match(r, ""):
		return api.ErrEmpty
	case strings.ContainsFunc(d.Close, func(r rune) bool { return r < 32 || r > 126 }):
		return api.ErrArg
	}
	return api.OK
}

// allStrings returns all strings of at most n of the given bytes.
func allStrings(bytes string, n int) []string {
	all := []string{""}
	for i := 0; i < len(all) && len(all[i]) < n; i++ {
		for k := range len(bytes) {
			all = append(all, all[i]+bytes[k:k+1])
		}
	}
	return all
}

// Random specifications.

// pick returns an element of l.
func pick[T any](random *rand.Rand, l ...T) T { return l[random.Intn(len(l))] }

// randomPattern returns the text of an expression over a and b with at most the given number of sets.
func randomPattern(random *rand.Rand, sets int) string {
	if sets <= 1 || random.Intn(6) == 0 {
		return pick(random, "a", "b", "a", "b", "[ab]", "a*", "b+", "(a)", "b()")
	}
	left := 1 + random.Intn(sets-1)
	x, y := randomPattern(random, left), randomPattern(random, sets-left)
	switch random.Intn(8) {
	case 0:
		return "(" + x + ")*" + y
	case 1:
		return x + "(" + y + ")?"
	case 2, 3:
		return x + "|" + y
	case 4:
		return "(" + x + "|" + y + ")"
	}
	return "(" + x + ")(" + y + ")"
}

// randomDef returns a definition that is valid by itself, but for its sample, in most cases.
func randomDef(random *rand.Rand, name string) api.TokenDef {
	d := api.TokenDef{Name: name, Kind: pick(random, 1, 2, 3, 3), Pattern: randomPattern(random, 4)}
	d.Sample = sampleOf(random, d.Pattern)
	d.Close = pick(random, "", "", "a", "~ !")
	switch random.Intn(60) {
	case 0:
		d.Name = pick(random, "", "1", "a-b", "indent", "a", "b")
	case 1:
		d.Kind = pick(random, 0, 4, -1)
	case 2:
		d.Pattern = pick(random, "(", "a)", "*", strings.Repeat("(", 5))
	case 3:
		d.Close = pick(random, "\n", "a\x7f")
	}
	return d
}

// sampleOf returns a short string that matches a pattern, if one is found, and is not always the shortest.
func sampleOf(random *rand.Rand, pattern string) string {
	r, _, _ := regex.Parse(pattern)
	var found []string
	for _, s := range allStrings("ab", 4) {
		if regex.Match(r, s) {
			found = append(found, s)
		}
	}
	if len(found) == 0 || random.Intn(20) == 0 {
		return pick(random, "", "a", "ab", "bb", "c")
	}
	return found[random.Intn(len(found))]
}

func randomSpec(random *rand.Rand) api.LexSpec {
	spec := api.LexSpec{Layout: random.Intn(2) == 0, Misspelling: random.Intn(1001), Unclosed: random.Intn(1001)}
	for i := range 1 + random.Intn(4) {
		spec.Defs = append(spec.Defs, randomDef(random, pick(random, "abcdefghi"[i:i+1], "xyzuvw_A9"[:i+1])))
	}
	if random.Intn(60) == 0 {
		spec.Misspelling = pick(random, -1, 1001)
	}
	return spec
}

// eachValidSpec calls f with specifications that Check accepts.
func eachValidSpec(t *testing.T, f func(spec api.LexSpec)) {
	t.Helper()
	for _, spec := range validSpecs() {
		f(spec)
	}
	random := rand.New(rand.NewSource(1))
	found := 0
	for range 4000 {
		spec := randomSpec(random)
		if _, err := lexspec.Check(spec); err == api.OK {
			found++
			f(spec)
		}
	}
	if found < 300 {
		t.Errorf("only %d of the random specifications are valid", found)
	}
}

// validSpecs returns valid specifications like those of languages.
func validSpecs() []api.LexSpec {
	text := plain("text", `"([^"\\\n]|\\.)*"`, `""`)
	text.Close = `"`
	return []api.LexSpec{
		of(keyword("if", "if", "if"), plain("word", "[a-z]+", "x")),
		of(plain("open", `\(`, "("), plain("close", `\)`, ")")),
		{Defs: []api.TokenDef{
			keyword("while", "while", "while"), keyword("if", "if", "if"), plain("word", "[A-Za-z_][A-Za-z_0-9]*", "x"),
			plain("num", `[0-9]+(\.[0-9]+)?`, "0"), text, plain("op", `[\-+*/=<>]|==|<=`, "+"),
			skip("space", `[ \t\n]+`, " "), skip("comment", "#[^\\n]*", "#"),
		}, Layout: true, Misspelling: 4, Unclosed: 6},
		of(skip("any", `.`, "\xff"), skip("line", `\n`, "\n")),
		of(plain("not", "[^a]", "\x00"), plain("a", "a|b", "a")),
	}
}
