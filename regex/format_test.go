package regex_test

import (
	"math/rand"
	"testing"

	"emendate/api"
	"emendate/regex"
)

func checkFormat(t *testing.T, r api.Regex, want string) {
	t.Helper()
	if got := regex.Format(r); got != want {
		t.Errorf("P8.3: Format(%s): %q, want %q", show(r), got, want)
	}
}

func TestFormat(t *testing.T) { // P8.3
	a, b, c, no := set("a"), set("b"), set("c"), empty()
	for _, x := range []struct {
		r    api.Regex
		want string
	}{
		{concat(a, star(union(b, c))), "a(b|c)*"},
		{plus(a), "aa*"},
		{option(set("abcx")), "[a-cx]|()"},
		// By themselves.
		{no, "()"},
		{a, "a"},
		{concat(a, b), "ab"},
		{concat(a, b, c), "abc"},
		{union(a, b), "a|b"},
		{union(a, b, c), "a|b|c"},
		{star(a), "a*"},
		// In a concatenation.
		{concat(no, no), "()()"},
		{concat(no, a), "()a"},
		{concat(a, no), "a()"},
		{concat(star(a), star(b)), "a*b*"},
		{concat(concat(a, b), c), "(ab)c"},
		{concat(a, concat(b, c)), "a(bc)"},
		{concat(a, concat(b, c), a), "a(bc)a"},
		{concat(concat(a, b), concat(b, c)), "(ab)(bc)"},
		{concat(union(a, b), c), "(a|b)c"},
		{concat(a, union(b, c)), "a(b|c)"},
		{concat(a, union(b, c), a), "a(b|c)a"},
		{concat(union(no, no), union(a, no)), "(()|())(a|())"},
		{concat(notSet("\n"), notSet("a"), set("ab")), ".[^a][ab]"},
		// In a union.
		{union(no, no), "()|()"},
		{union(no, a, no), "()|a|()"},
		{union(concat(a, b), c), "ab|c"},
		{union(a, concat(b, c)), "a|bc"},
		{union(star(a), star(b)), "a*|b*"},
		{union(union(a, b), c), "(a|b)|c"},
		{union(a, union(b, c)), "a|(b|c)"},
		{union(a, union(b, c), a), "a|(b|c)|a"},
		{union(a, concat(b, union(b, c))), "a|b(b|c)"},
		{union(notSet("\n"), notSet("a"), set("ab")), ".|[^a]|[ab]"},
		// In a repetition.
		{star(no), "(())*"},
		{star(set("ab")), "[ab]*"},
		{star(notSet("a")), "[^a]*"},
		{star(notSet("\n")), ".*"},
		{star(set("*")), "\\**"},
		{star(set("\n")), "\\n*"},
		{star(star(a)), "(a*)*"},
		{star(star(star(a))), "((a*)*)*"},
		{star(concat(a, b)), "(ab)*"},
		{star(union(a, b)), "(a|b)*"},
		{star(concat(union(a, b), c)), "((a|b)c)*"},
		// Deeper.
		{concat(concat(concat(a, b), c), a), "((ab)c)a"},
		{union(concat(a, concat(b, union(c, concat(a, no)))), star(star(union(a, concat(b, c))))), "a(b(c|a()))|((a|bc)*)*"},
	} {
		checkFormat(t, x.r, x.want)
		checkFormat(t, x.r, modelText(x.r))
	}
}

func TestFormatSets(t *testing.T) { // P8.3
	for _, x := range []struct {
		s    api.Set
		want string
	}{
		// One byte.
		{bytesOf("a"), "a"},
		{bytesOf(" "), " "},
		{bytesOf("~"), "~"},
		{bytesOf("\t"), "\\t"},
		{bytesOf("\n"), "\\n"},
		{bytesOf("-"), "-"},
		{bytesOf("^"), "^"},
		{bytesOf("\\"), "\\\\"},
		{bytesOf("]"), "\\]"},
		// Two and three bytes.
		{bytesOf("ab"), "[ab]"},
		{bytesOf("ac"), "[ac]"},
		{bytesOf("abc"), "[a-c]"},
		{bytesOf("abd"), "[abd]"},
		{bytesOf("acd"), "[acd]"},
		{bytesOf("abcd"), "[a-d]"},
		{bytesOf("abce"), "[a-ce]"},
		{bytesOf("acde"), "[ac-e]"},
		{bytesOf("abde"), "[abde]"},
		{bytesOf("abcefg"), "[a-ce-g]"},
		{bytesOf("abcefgi"), "[a-ce-gi]"},
		{bytesOf("cab"), "[a-c]"},
		{bytesOf("azAZ09"), "[09AZaz]"},
		{bytesOf("0123456789abcxyz_"), "[0-9_a-cx-z]"},
		// Next to a tab or a line feed.
		{bytesOf("\t\n"), "[\\t\\n]"},
		{bytesOf("\t "), "[\\t ]"},
		{bytesOf("\n !"), "[\\n !]"},
		{bytesOf("\t\n !\""), "[\\t\\n -\"]"},
		{bytesOf("\t\n !"), "[\\t\\n !]"},
		{bytesOf("\tabc"), "[\\ta-c]"},
		{bytesOf("}~ !"), "[ !}~]"},
		{bytesOf("|}~\t"), "[\\t|-~]"},
		// Escapes.
		{bytesOf("]a"), "[\\]a]"},
		{bytesOf("[]"), "[[\\]]"},
		{bytesOf("[\\]"), "[[-\\]]"},
		{bytesOf("\\]^"), "[\\\\-\\^]"},
		{bytesOf("]^_"), "[\\]-_]"},
		{bytesOf("^_`"), "[\\^-`]"},
		{bytesOf("^a"), "[\\^a]"},
		{bytesOf("X^"), "[X\\^]"},
		{bytesOf("-a"), "[\\-a]"},
		{bytesOf("+,-"), "[+-\\-]"},
		{bytesOf("-./"), "[\\--/]"},
		{bytesOf(",-."), "[,-.]"},
		{bytesOf(",."), "[,.]"},
		{bytesOf("()|*?"), "[(-*?|]"},
		{bytesOf("()|?"), "[()?|]"},
		{bytesOf("()*+"), "[(-+]"},
		{bytesOf("[{.$"), "[$.[{]"},
		// By the complement.
		{allBut("\n"), "."},
		{allBut("\t"), "[^\\t]"},
		{allBut("\t\n"), "[^\\t\\n]"},
		{allBut("a"), "[^a]"},
		{allBut("."), "[^.]"},
		{allBut("^"), "[^\\^]"},
		{allBut("-"), "[^\\-]"},
		{allBut("]"), "[^\\]]"},
		{allBut("\\"), "[^\\\\]"},
		{allBut("("), "[^(]"},
		{allBut("ab"), "[^ab]"},
		{allBut("abc"), "[^a-c]"},
		{allBut("\nabc"), "[^\\na-c]"},
		{allBut("]^_"), "[^\\]-_]"},
		// All that is writable.
		{bits(isWritable), "[\\t\\n -~]"},
		{bits(func(b int) bool { return !isWritable(b) }), "[^\\t\\n -~]"},
		{bits(func(b int) bool { return b >= 32 && b <= 126 }), "[ -~]"},
		{bits(func(b int) bool { return b < 32 || b > 126 }), "[^ -~]"},
		{bits(func(b int) bool { return b == 9 || b >= 32 && b <= 126 }), "[\\t -~]"},
	} {
		checkFormat(t, ofSet(x.s), x.want)
		checkFormat(t, ofSet(x.s), modelSetText(x.s))
	}
}

// complement returns the set of the bytes that are not in s.
func complement(s api.Set) api.Set { return bits(func(b int) bool { return !has(s, byte(b)) }) }

// Every byte by itself, among others, and as an end of a range.
func TestFormatEveryByte(t *testing.T) { // P8.3
	for lo := range 127 {
		if !isWritable(lo) {
			continue
		}
		x := modelCharText(byte(lo), "()[]|*+?.\\")
		one := bits(func(b int) bool { return b == lo })
		checkFormat(t, ofSet(one), x)
		checkFormat(t, star(ofSet(one)), x+"*")
		checkFormat(t, concat(set("a"), ofSet(one), union(ofSet(one), empty())), "a"+x+"("+x+"|())")
		if lo != 10 {
			checkFormat(t, ofSet(complement(one)), "[^"+modelCharText(byte(lo), "]\\-^")+"]")
		}
		for hi := lo; hi < 127; hi++ {
			s := bits(func(b int) bool { return lo <= b && b <= hi && isWritable(b) })
			checkFormat(t, ofSet(s), modelSetText(s))
			checkFormat(t, ofSet(complement(s)), modelSetText(complement(s)))
		}
	}
}

// All sets of some bytes that are special, and of neighbors of these.
func TestFormatSubsets(t *testing.T) { // P8.3
	for _, some := range []string{"\t\n !\"#,-./~", "XYZ[\\]^_`a{|", "()*+,-.?[]^|"} {
		for chosen := range 1 << len(some) {
			if chosen == 0 {
				continue
			}
			var s api.Set
			for i := range len(some) {
				if chosen>>i&1 == 1 {
					s[some[i]/64] |= 1 << (some[i] % 64)
				}
			}
			checkFormat(t, ofSet(s), modelSetText(s))
			checkFormat(t, ofSet(complement(s)), modelSetText(complement(s)))
		}
	}
}

// printableLeaves are expressions without kids.
func printableLeaves() []api.Regex {
	return []api.Regex{empty(), set("a"), set("b"), set("ab"), notSet("a"), notSet("\n"), set("*"), set("\n"), set("]^-"), notSet("abc\t")}
}

func TestFormatAllContexts(t *testing.T) { // P8.3
	leaves := []api.Regex{empty(), set("a"), notSet("a")}
	for _, r := range smallRegexes(3, leaves) {
		checkFormat(t, r, modelText(r))
	}
}

func TestFormatRandom(t *testing.T) { // P8.3
	random := rand.New(rand.NewSource(2))
	for range 20000 {
		r := randomRegex(random, 1+random.Intn(6), printableLeaves())
		checkFormat(t, r, modelText(r))
	}
}

func TestFormatDeep(t *testing.T) { // P8.3
	for name, wrap := range wrappers() {
		if name == "union last" { // has a kid that is not printable
			continue
		}
		for _, leaf := range []api.Regex{empty(), set("a"), notSet("b")} {
			r := nested(api.MaxNest, leaf, wrap)
			checkFormat(t, r, modelText(r))
		}
	}
}
