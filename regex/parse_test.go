package regex_test

import (
	"math/rand"
	"slices"
	"strings"
	"testing"

	"emendate/api"
	"emendate/regex"
)

func checkParse(t *testing.T, s string, want api.Regex) {
	t.Helper()
	got, at, err := regex.Parse(s)
	if err != api.OK || at != 0 || !equal(got, want) {
		t.Errorf("P8.2: Parse(%.60q): %s, %d, %d, want %s", s, show(got), at, err, show(want))
	}
	if !regex.Valid(got) {
		t.Errorf("P8.2: Parse(%.60q) is not valid", s)
	}
}

func checkNoRegex(t *testing.T, s string, at int, err api.Errno) {
	t.Helper()
	r, gotAt, gotErr := regex.Parse(s)
	if gotErr != err || gotAt != at || r.Kind != 0 || r.Set != (api.Set{}) || len(r.Kids) != 0 {
		t.Errorf("P8.2: Parse(%.60q): %s, %d, %d, want %d, %d", s, show(r), gotAt, gotErr, at, err)
	}
}

func TestParse(t *testing.T) { // P8.2
	a, b, c, no := set("a"), set("b"), set("c"), empty()
	for _, x := range []struct {
		s    string
		want api.Regex
	}{
		{"a(b|c)*", concat(a, star(union(b, c)))},
		// Branches.
		{"", no},
		{"a", a},
		{"ab", concat(a, b)},
		{"abc", concat(a, b, c)},
		{"abca", concat(a, b, c, a)},
		{"|", union(no, no)},
		{"||", union(no, no, no)},
		{"a|", union(a, no)},
		{"|a", union(no, a)},
		{"a|b", union(a, b)},
		{"a|b|c", union(a, b, c)},
		{"a||b", union(a, no, b)},
		{"ab|c|", union(concat(a, b), c, no)},
		{"a|bc", union(a, concat(b, c))},
		// Groups.
		{"()", no},
		{"(())", no},
		{"()()", concat(no, no)},
		{"()|()", union(no, no)},
		{"(a)", a},
		{"((a))", a},
		{"(|)", union(no, no)},
		{"(a|)b", concat(union(a, no), b)},
		{"(ab)c", concat(concat(a, b), c)},
		{"a(bc)", concat(a, concat(b, c))},
		{"(abc)", concat(a, b, c)},
		{"a|(b|c)", union(a, union(b, c))},
		{"(a|b)|c", union(union(a, b), c)},
		{"(a|b)(b|c)", concat(union(a, b), union(b, c))},
		{"a(b(c)a)b", concat(a, concat(b, c, a), b)},
		// Repeats.
		{"a*", star(a)},
		{"a+", concat(a, star(a))},
		{"a?", union(a, no)},
		{"a**", star(star(a))},
		{"a++", concat(concat(a, star(a)), star(concat(a, star(a))))},
		{"a??", union(union(a, no), no)},
		{"a*+", concat(star(a), star(star(a)))},
		{"a+*", star(concat(a, star(a)))},
		{"a*?", union(star(a), no)},
		{"a?*", star(union(a, no))},
		{"a+?", union(concat(a, star(a)), no)},
		{"a?+", concat(union(a, no), star(union(a, no)))},
		{"a*?+", concat(union(star(a), no), star(union(star(a), no)))},
		{"ab*", concat(a, star(b))},
		{"a*b", concat(star(a), b)},
		{"(ab)*", star(concat(a, b))},
		{"()*", star(no)},
		{"()+", concat(no, star(no))},
		{"()?", union(no, no)},
		{"a*|b*", union(star(a), star(b))},
		{"(a|b)+c", concat(concat(union(a, b), star(union(a, b))), c)},
		{"[ab]*", star(set("ab"))},
		{".*", star(notSet("\n"))},
		{"\\**", star(set("*"))},
		// Sets.
		{".", notSet("\n")},
		{"..", concat(notSet("\n"), notSet("\n"))},
		{"[.]", set(".")},
		{"\\.", set(".")},
		{"[a]", a},
		{"[^a]", notSet("a")},
		{"[aa]", a},
		{"[abc]", set("abc")},
		{"[cab]", set("abc")},
		{"[a-c]", set("abc")},
		{"[a-a]", a},
		{"[a-b]", set("ab")},
		{"[a-cb-e]", set("abcde")},
		{"[a-ce-g_]", set("abcefg_")},
		{"[_a-c]", set("abc_")},
		{"[^a-c]", notSet("abc")},
		{"[^\\n]", notSet("\n")},
		{"[^ -~\\t\\n]", ofSet(bits(func(b int) bool { return !isWritable(b) }))},
		{"[ -~]", ofSet(bits(func(b int) bool { return b >= 32 && b <= 126 }))},
		{"[()|*+?.[]", set("()|*+?.[")},
		{"[[]", set("[")},
		{"[[[]", set("[")},
		// The sign of negation.
		{"^", set("^")},
		{"a^b", concat(a, set("^"), b)},
		{"^*", star(set("^"))},
		{"[a^]", set("a^")},
		{"[^^]", notSet("^")},
		{"[^^^]", notSet("^")},
		{"[^a^]", notSet("a^")},
		{"[\\^]", set("^")},
		{"[\\^a]", set("^a")},
		{"[^\\^]", notSet("^")},
		{"[X-^]", set("XYZ[\\]^")},
		{"[a^-c]", set("a^_`bc")},
		// The sign of a range.
		{"-", set("-")},
		{"a-c", concat(a, set("-"), c)},
		{"[\\-]", set("-")},
		{"[a\\-c]", set("a-c")},
		{"[\\--/]", set("-./")},
		{"[+-\\-]", set("+,-")},
		{"[\\--\\-]", set("-")},
		{"[^\\-]", notSet("-")},
		// Escapes.
		{"\\n", set("\n")},
		{"\\t", set("\t")},
		{"n", set("n")},
		{"t", set("t")},
		{"\\n\\t\\\\", concat(set("\n"), set("\t"), set("\\"))},
		{"[\\n]", set("\n")},
		{"[\\t-\\n]", set("\t\n")},
		{"[\\n- ]", ofSet(bits(func(b int) bool { return b >= 10 && b <= 32 }))},
		{"[\\]]", set("]")},
		{"[\\[-\\]]", set("[\\]")},
		{"\\ ", set(" ")},
		{"\\~", set("~")},
		{"\\_", set("_")},
		{"\\-\\^\\{", concat(set("-"), set("^"), set("{"))},
		{"{2}", concat(set("{"), set("2"), set("}"))},
	} {
		checkParse(t, x.s, x.want)
	}
}

func TestParseWrong(t *testing.T) { // P8.2
	for _, x := range []struct {
		s  string
		at int
	}{
		// A byte that no regex has in this place.
		{")", 0},
		{"a)", 1},
		{"(a))", 3},
		{"())", 2},
		{"a|)", 2},
		{"(a|b))c(", 5},
		{"*", 0},
		{"+", 0},
		{"?", 0},
		{"a|*", 2},
		{"|?", 1},
		{"(*)", 1},
		{"a(+b)", 2},
		{"(a|*)", 3},
		{"]", 0},
		{"a]", 1},
		{"[a]]", 3},
		{"[a]b]", 4},
		{"[]", 1},
		{"[]a]", 1},
		{"[^]", 2},
		{"[^]a]", 2},
		{"[-a]", 1},
		{"[-]", 1},
		{"[^-a]", 2},
		{"[^^-]", 4},
		{"[a-]", 3},
		{"[a--]", 3},
		{"[a-b-c]", 4},
		{"[a-b-", 4},
		{"[^a-]", 4},
		// A range in the wrong order.
		{"[b-a]", 3},
		{"[c-a", 3},
		{"[^b-a]", 4},
		{"[a-^]", 3},
		{"[ab-a]", 4},
		{"[a-cc-a]", 6},
		{"[c-\\n]", 3},
		{"[c-\\t", 3},
		{"[c-\\]]", 3},
		{"[~-\\]]", 3},
		{"[\\n-\\t]", 4},
		{"[\\n-\\t", 4},
		{"[ -\\n]", 3},
		{"[\\]-\\[]", 4},
		{"[\\--,]", 4},
		{"x[\\--\\,]y", 5},
		// A wrong byte in the second char comes before the order.
		{"[c-\\a]", 4},
		{"[c-\x01]", 3},
		{"[c-\\\n]", 4},
		{"[c-\\0]", 4},
		// Escapes.
		{"\\a", 1},
		{"\\N", 1},
		{"\\0", 1},
		{"\\9", 1},
		{"\\Z", 1},
		{"\\\n", 1},
		{"\\\t", 1},
		{"\\\x7f", 1},
		{"\\\x80", 1},
		{"\\é", 1},
		{"a\\b", 2},
		{"[\\a]", 2},
		{"[a\\b]", 3},
		{"[\\a-z]", 2},
		{"[a-\\z]", 4},
		// Bytes that are not from 32 to 126.
		{"\x00", 0},
		{"a\x01", 1},
		{"a\nb", 1},
		{"a\tb", 1},
		{"\x1f", 0},
		{"\x7f", 0},
		{"\x80", 0},
		{"aé", 1},
		{"\xff", 0},
		{"[\n]", 1},
		{"[\t]", 1},
		{"[a\x7f]", 2},
		{"[^\x80]", 2},
		{"[a\nb", 2},
		{"a*\n", 2},
		{"(\n", 1},
		// Proper prefixes.
		{"(", 1},
		{"((", 2},
		{"(a", 2},
		{"(a|", 3},
		{"(a*", 3},
		{"(()", 3},
		{"a(b", 3},
		{"[", 1},
		{"[^", 2},
		{"[^^", 3},
		{"[a", 2},
		{"[a-", 3},
		{"[~-", 3},
		{"[a-c", 4},
		{"[a-cx", 5},
		{"[(", 2},
		{"[a^", 3},
		{"[a[", 3},
		{"\\", 1},
		{"a\\", 2},
		{"[\\", 2},
		{"[^\\", 3},
		{"[a-\\", 4},
		{"[~-\\", 4},
		{"[\\n", 3},
		{"[\\n-", 4},
		{"([a", 3},
		{"(\\", 2},
		{"([^a]", 5},
	} {
		checkNoRegex(t, x.s, x.at, api.ErrSyntax)
	}
}

// checkLikeModel requires what the rules of the text form say of s.
func checkLikeModel(t *testing.T, s string, strict, loose *textModel) {
	t.Helper()
	if want := strict.regex(s); want != nil {
		checkParse(t, s, *want)
	} else {
		checkNoRegex(t, s, strict.wrongAt(s, loose), api.ErrSyntax)
	}
}

func TestParseShortTexts(t *testing.T) { // P8.2
	strict, loose := newTextModel(false), newTextModel(true)
	for _, s := range shortStrings("a()|*+?", 5) {
		checkLikeModel(t, s, strict, loose)
	}
	for _, s := range shortStrings("a-[]^\\n~", 4) {
		checkLikeModel(t, s, strict, loose)
		checkLikeModel(t, "["+s, strict, loose)
		checkLikeModel(t, "["+s+"]", strict, loose)
	}
	for _, s := range shortStrings("a.(|)*[^-]\\n\n", 3) {
		checkLikeModel(t, s, strict, loose)
		checkLikeModel(t, "("+s, strict, loose)
		checkLikeModel(t, "(b"+s+")*", strict, loose)
	}
	for _, s := range shortStrings("\\n-a^", 5) {
		checkLikeModel(t, "["+s+"]", strict, loose)
	}
}

// Random texts that are put together from pieces, so that many of them are regexes.
func TestParseRandomTexts(t *testing.T) { // P8.2
	random := rand.New(rand.NewSource(1))
	pieces := []string{"a", "b", "c", "(", ")", "(", ")", "|", "*", "+", "?", ".", "[a-c]", "[^a]", "[", "]", "^", "-", "\\n", "\\", "\\]", "[\\--a]", "\n", "(a|b)", "()"}
	for range 3000 {
		strict, loose := newTextModel(false), newTextModel(true)
		s := ""
		for range 1 + random.Intn(8) {
			s += pieces[random.Intn(len(pieces))]
		}
		checkLikeModel(t, s, strict, loose)
	}
}

// Every byte in every place of a char.
func TestParseEveryByte(t *testing.T) { // P8.2
	strict, loose := newTextModel(false), newTextModel(true)
	for b := range 256 {
		x := string([]byte{byte(b)})
		for _, s := range []string{x, "a" + x, x + "a", "(" + x + ")", "\\" + x, "a|\\" + x + "b", "[" + x, "[" + x + "]", "[a" + x + "]", "[^" + x + "]", "[\\" + x + "]", "[a\\" + x, "[" + x + "-~]", "[ -" + x + "]", "[ -" + x, "[a-" + x + "]", "[a-\\" + x + "]", "[a-\\" + x, "[\\" + x + "-a]", "[\\" + x + "-\\}]"} {
			checkLikeModel(t, s, strict, loose)
		}
	}
	for _, plain := range "^-{}<>=!\"#$%&',/:;@_`~ " { // not special outside of brackets
		checkParse(t, string(plain), set(string(plain)))
		checkParse(t, "\\"+string(plain), set(string(plain)))
	}
}

// All pairs of bytes as the ends of a range, as they stand or escaped.
func TestParseRanges(t *testing.T) { // P8.2
	for lo := range 127 {
		for hi := range 127 {
			if !isWritable(lo) || !isWritable(hi) {
				continue
			}
			first, second := modelCharText(byte(lo), "]\\-^"), modelCharText(byte(hi), "]\\-")
			if lo > hi {
				checkNoRegex(t, "[x"+first+"-"+second+"]", 3+len(first), api.ErrSyntax)
				checkNoRegex(t, "["+first+"-"+second, 2+len(first), api.ErrSyntax)
				continue
			}
			in := func(b int) bool { return lo <= b && b <= hi }
			checkParse(t, "["+first+"-"+second+"]", ofSet(bits(in)))
			checkParse(t, "[z"+first+"-"+second+"]", ofSet(bits(func(b int) bool { return in(b) || b == 'z' })))
			checkParse(t, "[^"+first+"-"+second+"z]", ofSet(bits(func(b int) bool { return !in(b) && b != 'z' })))
		}
	}
}

func TestParseLimit(t *testing.T) { // P8.2
	a := set("a")
	for n := range 40 { // groups with repeats: each is one expression more
		s := strings.Repeat("(", n) + "a" + strings.Repeat(")*", n)
		if n < 29 {
			checkParse(t, s+"|a", union(nested(n+1, a, star), a))
			checkParse(t, "a"+s, concat(a, nested(n+1, a, star)))
		} else {
			checkNoRegex(t, s+"|a", 0, api.ErrLimit)
			checkNoRegex(t, "a"+s, 0, api.ErrLimit)
		}
		if n <= 29 {
			checkParse(t, s, nested(n+1, a, star))
		} else {
			checkNoRegex(t, s, 0, api.ErrLimit)
			checkNoRegex(t, "b"+s+"c", 0, api.ErrLimit)
		}
		checkNoRegex(t, s+")", len(s), api.ErrSyntax)
		checkNoRegex(t, "("+s, len(s)+1, api.ErrSyntax)
		checkNoRegex(t, s+"\n", len(s), api.ErrSyntax)
		checkNoRegex(t, s+"[", len(s)+1, api.ErrSyntax)
	}
	for n := range 100 { // parentheses alone
		checkParse(t, strings.Repeat("(", n)+"a"+strings.Repeat(")", n), a)
		checkParse(t, strings.Repeat("(", n)+strings.Repeat(")", n), empty())
	}
	for n := range 40 { // the longest path is that of the last kid, or of the first one
		right, left := strings.Repeat("a(b|", n)+strings.Repeat(")", n), strings.Repeat("(", n)+"a"+strings.Repeat("|b)c", n)
		if n <= 14 {
			checkParse(t, right, nested(n+1, empty(), func(r api.Regex) api.Regex { return concat(a, union(set("b"), r)) }))
			checkParse(t, left, nested(n+1, a, func(r api.Regex) api.Regex { return concat(union(r, set("b")), set("c")) }))
		} else {
			checkNoRegex(t, right, 0, api.ErrLimit)
			checkNoRegex(t, left, 0, api.ErrLimit)
		}
	}
	checkLimitOfRepeats(t)
}

// checkLimitOfRepeats checks repeats after one another, each of which is one expression more, or, for "+", two.
func checkLimitOfRepeats(t *testing.T) {
	t.Helper()
	for n := range 40 {
		for _, x := range []struct {
			repeat string
			limit  int
			wrap   func(r api.Regex) api.Regex
		}{{"*", 29, star}, {"?", 29, option}, {"+", 14, plus}} {
			s := "a" + strings.Repeat(x.repeat, n)
			switch {
			case n > x.limit:
				checkNoRegex(t, s, 0, api.ErrLimit)
				checkNoRegex(t, "b|"+s+"|c", 0, api.ErrLimit)
				checkNoRegex(t, s+"|*", len(s)+1, api.ErrSyntax)
			case x.repeat != "+" || n <= 8: // not too large to be compared
				checkParse(t, s, nested(n+1, set("a"), x.wrap))
			default:
				if _, at, err := regex.Parse(s); at != 0 || err != api.OK {
					t.Errorf("P8.2: Parse(%q): %d, %d", s, at, err)
				}
			}
		}
	}
}

// Texts that are long, deep, or stand for expressions of exponential size.
func TestParseLongTexts(t *testing.T) { // P8.2
	const n = 65000
	checkParse(t, strings.Repeat("(", n)+"a"+strings.Repeat(")", n), set("a"))
	checkNoRegex(t, strings.Repeat("(", n)+"a"+strings.Repeat("*)", n), 0, api.ErrLimit)
	checkNoRegex(t, strings.Repeat("(", n), n, api.ErrSyntax)
	checkNoRegex(t, strings.Repeat("(", n)+strings.Repeat(")", n+1), 2*n, api.ErrSyntax)
	checkNoRegex(t, "a"+strings.Repeat("+", n), 0, api.ErrLimit)
	checkNoRegex(t, "a"+strings.Repeat("+", n)+")", n+1, api.ErrSyntax)
	s := strings.Repeat("a++++++++++++++", n)
	checkNoRegex(t, s+"\\", len(s)+1, api.ErrSyntax)
	checkNoRegex(t, s+"+", 0, api.ErrLimit)
	checkParse(t, strings.Repeat("a", n), concat(slices.Repeat([]api.Regex{set("a")}, n)...))
	checkParse(t, strings.Repeat("|", n), union(slices.Repeat([]api.Regex{empty()}, n+1)...))
	checkParse(t, "["+strings.Repeat("a-c", n)+"]", set("abc"))
}
