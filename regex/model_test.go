package regex_test

import (
	"math/rand"
	"slices"
	"strings"

	"emendate/api"
)

// Expressions.

func none() api.Regex  { return api.Regex{Kind: api.RxNone} }
func empty() api.Regex { return api.Regex{Kind: api.RxEmpty} }

// bits returns the set of the bytes for which f returns true.
func bits(f func(b int) bool) api.Set {
	var s api.Set
	for b := range 256 {
		if f(b) {
			s[b/64] |= 1 << (b % 64)
		}
	}
	return s
}

func has(s api.Set, b byte) bool { return s[b/64]&(1<<(b%64)) != 0 }

func bytesOf(chars string) api.Set {
	return bits(func(b int) bool { return strings.IndexByte(chars, byte(b)) >= 0 })
}

func allBut(chars string) api.Set {
	return bits(func(b int) bool { return strings.IndexByte(chars, byte(b)) < 0 })
}

func ofSet(s api.Set) api.Regex { return api.Regex{Kind: api.RxSet, Set: s} }

// set returns the set of the bytes of chars.
func set(chars string) api.Regex { return ofSet(bytesOf(chars)) }

// notSet returns the set of the bytes that are not in chars.
func notSet(chars string) api.Regex { return ofSet(allBut(chars)) }

func concat(kids ...api.Regex) api.Regex { return api.Regex{Kind: api.RxConcat, Kids: kids} }
func union(kids ...api.Regex) api.Regex  { return api.Regex{Kind: api.RxUnion, Kids: kids} }
func star(kid api.Regex) api.Regex       { return api.Regex{Kind: api.RxStar, Kids: []api.Regex{kid}} }
func plus(kid api.Regex) api.Regex       { return concat(kid, star(kid)) }
func option(kid api.Regex) api.Regex     { return union(kid, empty()) }

func equal(a, b api.Regex) bool {
	return a.Kind == b.Kind && a.Set == b.Set && slices.EqualFunc(a.Kids, b.Kids, equal)
}

// copyOf returns r in memory of its own.
func copyOf(r api.Regex) api.Regex {
	r.Kids = slices.Clone(r.Kids)
	for i := range r.Kids {
		r.Kids[i] = copyOf(r.Kids[i])
	}
	return r
}

// height returns the greatest number of expressions on a path from the root.
func height(r api.Regex) int {
	h := 0
	for _, kid := range r.Kids {
		h = max(h, height(kid))
	}
	return h + 1
}

// show writes an expression plainly.
func show(r api.Regex) string {
	switch r.Kind {
	case api.RxNone:
		return "none"
	case api.RxEmpty:
		return "empty"
	case api.RxSet:
		var l []byte
		for b := range 256 {
			if has(r.Set, byte(b)) {
				l = append(l, byte(b))
			}
		}
		if len(l) > 128 {
			return "set of many"
		}
		return "set of " + string(l)
	}
	name := map[int]string{api.RxConcat: "concat", api.RxUnion: "union", api.RxStar: "star"}[r.Kind]
	if name == "" {
		name = "?"
	}
	var kids []string
	for _, kid := range r.Kids {
		kids = append(kids, show(kid))
	}
	return name + "(" + strings.Join(kids, ", ") + ")"
}

// shortStrings returns all strings of at most n of the given bytes.
func shortStrings(bytes string, n int) []string {
	all := []string{""}
	for i := 0; i < len(all) && len(all[i]) < n; i++ {
		for k := range len(bytes) {
			all = append(all, all[i]+bytes[k:k+1])
		}
	}
	return all
}

// Matching.

// slowMatch tells from the definition whether r matches s.
func slowMatch(r api.Regex, s string) bool {
	switch r.Kind {
	case api.RxEmpty:
		return s == ""
	case api.RxSet:
		return len(s) == 1 && has(r.Set, s[0])
	case api.RxConcat:
		return slowMatchAll(r.Kids, s)
	case api.RxUnion:
		for _, kid := range r.Kids {
			if slowMatch(kid, s) {
				return true
			}
		}
	case api.RxStar:
		if s == "" {
			return true
		}
		for i := 1; i <= len(s); i++ { // empty strings can be left out
			if slowMatch(r.Kids[0], s[:i]) && slowMatch(r, s[i:]) {
				return true
			}
		}
	}
	return false
}

// slowMatchAll tells whether s is a concatenation of strings that the expressions of l match, in order.
func slowMatchAll(l []api.Regex, s string) bool {
	if len(l) == 0 {
		return s == ""
	}
	for i := 0; i <= len(s); i++ {
		if slowMatch(l[0], s[:i]) && slowMatchAll(l[1:], s[i:]) {
			return true
		}
	}
	return false
}

// randomRegex returns an expression of at most the given height, over the given leaves.
func randomRegex(random *rand.Rand, height int, leaves []api.Regex) api.Regex {
	if height <= 1 {
		return copyOf(leaves[random.Intn(len(leaves))])
	}
	switch random.Intn(7) {
	case 0, 1, 2:
		return concat(randomKids(random, height, leaves)...)
	case 3, 4:
		return union(randomKids(random, height, leaves)...)
	case 5:
		return star(randomRegex(random, height-1, leaves))
	}
	return copyOf(leaves[random.Intn(len(leaves))])
}

func randomKids(random *rand.Rand, height int, leaves []api.Regex) []api.Regex {
	var kids []api.Regex
	for range 2 + random.Intn(3)*random.Intn(2) {
		kids = append(kids, randomRegex(random, height-1, leaves))
	}
	return kids
}

// smallRegexes returns all expressions of at most the given height with the given leaves and at most two kids.
func smallRegexes(height int, leaves []api.Regex) []api.Regex {
	if height == 1 {
		return leaves
	}
	kids := smallRegexes(height-1, leaves)
	all := slices.Clone(leaves)
	for _, a := range kids {
		all = append(all, star(a))
		for _, b := range kids {
			all = append(all, concat(a, b), union(a, b))
		}
	}
	return all
}

// The text form.

// A textModel tells from the rules of the text form what a text stands for, by trying all ways to divide it. It remembers what it has found, by the symbol of the rules and the text.
type textModel struct {
	anyOrder bool // whether the second byte of a range may be less than the first one
	known    map[string]*api.Regex
}

func newTextModel(anyOrder bool) *textModel {
	return &textModel{anyOrder, map[string]*api.Regex{}}
}

// remembered returns what find finds for a symbol and a text, or nil.
func (m *textModel) remembered(symbol, s string, find func() *api.Regex) *api.Regex {
	key := symbol + s
	r, known := m.known[key]
	if !known {
		r = find()
		m.known[key] = r
	}
	return r
}

// divided returns what s stands for if it can be divided into one or more texts for which part finds expressions, with the given text between them.
func (m *textModel) divided(s, between string, part func(s string) *api.Regex) []api.Regex {
	for i := 1; i <= len(s); i++ {
		first := part(s[:i])
		if first == nil {
			continue
		}
		if i == len(s) {
			return []api.Regex{*first}
		}
		if behind, found := strings.CutPrefix(s[i:], between); found {
			if rest := m.divided(behind, between, part); rest != nil {
				return append([]api.Regex{*first}, rest...)
			}
		}
	}
	return nil
}

func (m *textModel) regex(s string) *api.Regex {
	return m.remembered("regex ", s, func() *api.Regex {
		if one := m.branch(s); one != nil {
			return one
		}
		branches := m.branches(s)
		if branches == nil {
			return nil
		}
		r := union(branches...)
		return &r
	})
}

// branches returns what the branches of s stand for, which may be empty.
func (m *textModel) branches(s string) []api.Regex {
	for i := 0; i <= len(s); i++ {
		first := m.branch(s[:i])
		if first == nil {
			continue
		}
		if i == len(s) {
			return []api.Regex{*first}
		}
		if s[i] == '|' {
			if rest := m.branches(s[i+1:]); rest != nil {
				return append([]api.Regex{*first}, rest...)
			}
		}
	}
	return nil
}

func (m *textModel) branch(s string) *api.Regex {
	return m.remembered("branch ", s, func() *api.Regex {
		if s == "" {
			r := empty()
			return &r
		}
		repeats := m.divided(s, "", m.repeat)
		switch len(repeats) {
		case 0:
			return nil
		case 1:
			return &repeats[0]
		}
		r := concat(repeats...)
		return &r
	})
}

func (m *textModel) repeat(s string) *api.Regex {
	return m.remembered("repeat ", s, func() *api.Regex {
		if x := m.atom(s); x != nil || s == "" {
			return x
		}
		x := m.repeat(s[:len(s)-1])
		if x == nil {
			return nil
		}
		switch s[len(s)-1] {
		case '*':
			r := star(*x)
			return &r
		case '+':
			r := plus(*x)
			return &r
		case '?':
			r := option(*x)
			return &r
		}
		return nil
	})
}

func (m *textModel) atom(s string) *api.Regex {
	inner, left := strings.CutPrefix(s, "(")
	inner, right := strings.CutSuffix(inner, ")")
	if left && right {
		return m.regex(inner)
	}
	if s == "." {
		r := notSet("\n")
		return &r
	}
	if b, ok := modelChar(s, false); ok {
		r := set(string([]byte{b}))
		return &r
	}
	return m.brackets(s)
}

func (m *textModel) brackets(s string) *api.Regex {
	inner, left := strings.CutPrefix(s, "[")
	inner, right := strings.CutSuffix(inner, "]")
	if !left || !right {
		return nil
	}
	inner, negated := strings.CutPrefix(inner, "^")
	elements := m.divided(inner, "", m.element)
	if elements == nil {
		return nil
	}
	r := ofSet(bits(func(b int) bool {
		found := slices.ContainsFunc(elements, func(x api.Regex) bool { return has(x.Set, byte(b)) })
		return found != negated
	}))
	return &r
}

// element returns the set that an element stands for, which is empty for a range in the wrong order if that is allowed.
func (m *textModel) element(s string) *api.Regex {
	for i := 1; i <= len(s); i++ {
		lo, ok := modelChar(s[:i], true)
		hi := lo
		if behind, isRange := strings.CutPrefix(s[i:], "-"); ok && isRange {
			hi, ok = modelChar(behind, true)
		} else if i < len(s) {
			ok = false
		}
		if ok && (lo <= hi || m.anyOrder) {
			r := ofSet(bits(func(b int) bool { return int(lo) <= b && b <= int(hi) }))
			return &r
		}
	}
	return nil
}

// modelChar returns the byte for which a char stands, and whether s is one.
func modelChar(s string, inside bool) (byte, bool) {
	special := "()[]|*+?.\\"
	if inside {
		special = "]\\-"
	}
	switch {
	case len(s) == 1:
		return s[0], s[0] >= 32 && s[0] <= 126 && !strings.Contains(special, s)
	case len(s) != 2 || s[0] != '\\':
		return 0, false
	case s[1] == 'n':
		return 10, true
	case s[1] == 't':
		return 9, true
	}
	const lettersAndDigits = "abcdefghijklmnopqrstuvwxyzABCDEFGHIJKLMNOPQRSTUVWXYZ0123456789"
	return s[1], s[1] >= 32 && s[1] <= 126 && !strings.Contains(lettersAndDigits, s[1:])
}

// begins tells whether a regex begins with s. What is open at the end of s can be closed by a char, which is not less than any other one, by a bracket, and by parentheses.
func (m *textModel) begins(s string) bool {
	for _, end := range []string{"", "~", "]", "~]"} {
		for n := range len(s) + 1 {
			if m.regex(s+end+strings.Repeat(")", n)) != nil {
				return true
			}
		}
	}
	return false
}

// wrongAt returns the offset where s, which is no regex, goes wrong. Loose is the model that allows ranges in the wrong order.
func (m *textModel) wrongAt(s string, loose *textModel) int {
	for i := range len(s) {
		if m.begins(s[:i+1]) {
			continue
		}
		if loose.begins(s[:i+1]) && s[i-1] == '\\' {
			return i - 1 // the second char of a range is an escape
		}
		return i
	}
	return len(s)
}

// The canonical text.

// modelText returns the canonical text of a printable expression.
func modelText(r api.Regex) string {
	var l []string
	for _, kid := range r.Kids {
		text := modelText(kid)
		grouped := map[int]bool{
			api.RxConcat: kid.Kind == api.RxConcat || kid.Kind == api.RxUnion,
			api.RxUnion:  kid.Kind == api.RxUnion,
			api.RxStar:   kid.Kind != api.RxSet,
		}[r.Kind]
		if grouped {
			text = "(" + text + ")"
		}
		l = append(l, text)
	}
	switch r.Kind {
	case api.RxSet:
		return modelSetText(r.Set)
	case api.RxConcat:
		return strings.Join(l, "")
	case api.RxUnion:
		return strings.Join(l, "|")
	case api.RxStar:
		return l[0] + "*"
	}
	return "()"
}

func isWritable(b int) bool { return b >= 32 && b <= 126 || b == 9 || b == 10 }

// modelSetText returns the canonical text of a set that is written by itself or by its complement.
func modelSetText(s api.Set) string {
	var elements, others []byte
	writable := true
	for b := range 256 {
		if has(s, byte(b)) {
			elements = append(elements, byte(b))
			writable = writable && isWritable(b)
		} else {
			others = append(others, byte(b))
		}
	}
	switch {
	case string(others) == "\n":
		return "."
	case len(elements) == 1:
		return modelCharText(elements[0], "()[]|*+?.\\")
	case writable:
		return "[" + modelElements(elements) + "]"
	}
	return "[^" + modelElements(others) + "]"
}

// modelElements removes what is inside of a range from the list of all bytes: those with two neighbors on the same side, or one on each.
func modelElements(l []byte) string {
	in := func(b int) bool { return b >= 32 && b <= 126 && slices.Contains(l, byte(b)) }
	var text strings.Builder
	for _, c := range l {
		b := int(c)
		before, behind := in(b) && in(b-1), in(b) && in(b+1)
		switch {
		case before && behind:
			continue
		case before && in(b-2):
			text.WriteString("-")
		}
		text.WriteString(modelCharText(c, "]\\-^"))
	}
	return text.String()
}

func modelCharText(b byte, escaped string) string {
	switch {
	case b == 9:
		return "\\t"
	case b == 10:
		return "\\n"
	case strings.Contains(escaped, string([]byte{b})):
		return "\\" + string([]byte{b})
	}
	return string([]byte{b})
}
