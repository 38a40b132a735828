package textdiff_test

import (
	"slices"
	"strings"
	"testing"

	"emendate/api"
	"emendate/textdiff"
)

// shortStrings returns all strings of at most n bytes over the given bytes.
func shortStrings(bytes string, n int) []string {
	all := []string{""}
	for i := 0; i < len(all) && len(all[i]) < n; i++ {
		for k := range len(bytes) {
			all = append(all, all[i]+bytes[k:k+1])
		}
	}
	return all
}

// eachShortPair calls f with all pairs of short strings over two bytes, and over three.
func eachShortPair(f func(a, b string)) {
	for _, l := range [][]string{shortStrings("a\xff", 6), shortStrings("abc", 4)} {
		for _, a := range l {
			for _, b := range l {
				f(a, b)
			}
		}
	}
}

// subsequences returns all subsequences of s, each of them as often as it can be chosen.
func subsequences(s string) []string {
	l := []string{""}
	for i := range len(s) {
		for _, chosen := range slices.Clone(l) {
			l = append(l, chosen+s[i:i+1])
		}
	}
	return l
}

// isSubsequence reports whether s is what remains of b without some of its bytes.
func isSubsequence(s, b string) bool {
	for i := range len(s) {
		_, rest, found := strings.Cut(b, s[i:i+1])
		if !found {
			return false
		}
		b = rest
	}
	return true
}

// slowDistance tries all subsequences of a.
func slowDistance(a, b string) int {
	longest := 0
	for _, s := range subsequences(a) {
		if len(s) > longest && isSubsequence(s, b) {
			longest = len(s)
		}
	}
	return len(a) + len(b) - 2*longest
}

// slowDistances remembers what slowDistance returns.
type slowDistances map[[2]string]int

func (m slowDistances) of(a, b string) int {
	n, known := m[[2]string{a, b}]
	if !known {
		n = slowDistance(a, b)
		m[[2]string{a, b}] = n
	}
	return n
}

// matching returns the canonical matching step by step: m matches, d deletes, i inserts.
func matching(a, b string, distance func(a, b string) int) string {
	var steps strings.Builder
	for a != "" || b != "" {
		step := byte('i')
		switch {
		case a == "":
		case b == "":
			step = 'd'
		case a[0] == b[0]:
			step = 'm'
		case distance(a[1:], b) <= distance(a, b[1:]):
			step = 'd'
		}
		if step != 'i' {
			a = a[1:]
		}
		if step != 'd' {
			b = b[1:]
		}
		steps.WriteByte(step)
	}
	return steps.String()
}

// editsOf returns the edits of a matching, which lead to b.
func editsOf(steps, b string) []api.Edit {
	var edits []api.Edit
	i, j := 0, 0
	inRun := false
	for _, step := range steps {
		if step == 'm' {
			i, j, inRun = i+1, j+1, false
			continue
		}
		if !inRun {
			edits = append(edits, api.Edit{At: i})
			inRun = true
		}
		e := &edits[len(edits)-1]
		if step == 'd' {
			e.Del++
			i++
		} else {
			e.Ins += b[j : j+1]
			j++
		}
	}
	return edits
}

// replaced returns a after edits that all refer to a, are in increasing order and do not touch. It reports whether they are so.
func replaced(a string, edits []api.Edit) (string, bool) {
	var b strings.Builder
	end := -1 // of the edit before, so that the first one may begin at 0
	for _, e := range edits {
		if e.At <= end || e.Del < 0 || e.At+e.Del > len(a) || e.Del == 0 && e.Ins == "" {
			return "", false
		}
		b.WriteString(a[max(end, 0):e.At])
		b.WriteString(e.Ins)
		end = e.At + e.Del
	}
	b.WriteString(a[max(end, 0):])
	return b.String(), true
}

func TestDistanceOfShortStrings(t *testing.T) { // P6.1
	eachShortPair(func(a, b string) { checkDistance(t, a, b, slowDistance(a, b)) })
}

func TestDiffOfShortStrings(t *testing.T) { // P6.2
	known := slowDistances{}
	eachShortPair(func(a, b string) {
		checkDiff(t, "short strings", a, b, editsOf(matching(a, b, known.of), b))
	})
}

// The model itself, where the steps are plain from the chapter.
func TestMatching(t *testing.T) { // P6.2
	for _, c := range []struct{ a, b, steps string }{
		{"", "", ""},
		{"ab", "ab", "mm"},
		{"ab", "ba", "dmi"},
		{"abc", "cab", "immd"},
		{"ab", "", "dd"},
		{"", "ab", "ii"},
		{"abcd", "axcd", "mdimm"},
	} {
		if got := matching(c.a, c.b, slowDistance); got != c.steps {
			t.Errorf("%q and %q: %s, want %s", c.a, c.b, got, c.steps)
		}
	}
}

func TestHullOfShortStrings(t *testing.T) { // P6.3
	eachShortPair(func(a, b string) {
		prefix := min(len(a), len(b))
		for !strings.HasPrefix(b, a[:prefix]) {
			prefix--
		}
		restA, restB := a[prefix:], b[prefix:]
		suffix := min(len(restA), len(restB))
		for !strings.HasSuffix(restB, restA[len(restA)-suffix:]) {
			suffix--
		}
		want := api.Edit{At: prefix, Del: len(restA) - suffix, Ins: restB[:len(restB)-suffix]}
		checkHull(t, "short strings", a, b, want)
	})
}

// checkTransforms requires that the edits of Diff and of Hull lead from a to b, and that those of Diff have as many bytes as the distance.
func checkTransforms(t *testing.T, a, b string) {
	t.Helper()
	edits := textdiff.Diff(a, b)
	if got, ok := replaced(a, edits); got != b || !ok {
		t.Errorf("P6.4: %s of Diff(%.40q, %.40q) lead to %.40q, increasing and apart: %t", short(edits...), a, b, got, ok)
	}
	bytes := 0
	for _, e := range edits {
		bytes += e.Del + len(e.Ins)
	}
	if distance := textdiff.Distance(a, b); bytes != distance {
		t.Errorf("P6.4: %s of Diff(%.40q, %.40q) have %d bytes, the distance is %d", short(edits...), a, b, bytes, distance)
	}
	hull := textdiff.Hull(a, b)
	if got := a[:hull.At] + hull.Ins + a[hull.At+hull.Del:]; got != b {
		t.Errorf("P6.4: %s of Hull(%.40q, %.40q) leads to %.40q", short(hull), a, b, got)
	}
}

func TestEditsTransform(t *testing.T) { // P6.4
	eachShortPair(func(a, b string) { checkTransforms(t, a, b) })
}

func TestDistanceIsAMetric(t *testing.T) { // P6.4
	for _, l := range [][]string{shortStrings("ab", 4), shortStrings("abc", 3)} {
		for _, a := range l {
			for _, b := range l {
				ab := textdiff.Distance(a, b)
				if ba := textdiff.Distance(b, a); ab != ba {
					t.Errorf("P6.4: %d from %q to %q, but %d back", ab, a, b, ba)
				}
				if ab < 0 || (ab == 0) != (a == b) {
					t.Errorf("P6.4: the distance of %q and %q is %d", a, b, ab)
				}
				for _, c := range l {
					if bc, ac := textdiff.Distance(b, c), textdiff.Distance(a, c); ac > ab+bc {
						t.Errorf("P6.4: %d from %q to %q, but %d and %d by %q", ac, a, c, ab, bc, b)
					}
				}
			}
		}
	}
}

func TestCommonPrefixAndSuffix(t *testing.T) { // P6.4
	common := shortStrings("ab\xff", 2)
	l := shortStrings("ab", 3)
	for _, a := range l {
		for _, b := range l {
			want := textdiff.Distance(a, b)
			for _, c := range common {
				checkDistance(t, c+a, c+b, want)
				checkDistance(t, a+c, b+c, want)
				checkDistance(t, c+a+c, c+b+c, want)
			}
		}
	}
}

// numbers is a fixed sequence of numbers that look random.
type numbers uint64

func (x *numbers) below(n int) int {
	*x = *x*6364136223846793005 + 1442695040888963407
	return int(uint64(*x) >> 33 % uint64(n))
}

// someString returns a string of less than n bytes, of which there are so many different ones.
func someString(x *numbers, n, different int) string {
	s := make([]byte, x.below(n))
	for i := range s {
		s[i] = byte(255 - x.below(different)*31)
	}
	return string(s)
}

// changed returns s with some bytes deleted and others inserted.
func changed(x *numbers, s string) string {
	for range x.below(8) {
		at := x.below(len(s) + 1)
		s = s[:at] + someString(x, 5, 4) + s[min(at+x.below(4), len(s)):]
	}
	return s
}

// rowDistance computes the distance from prefixes instead of suffixes.
func rowDistance(a, b string) int {
	row := make([]int, len(b)+1) // lengths of longest common subsequences
	for i := range len(a) {
		diagonal := 0
		for j := range len(b) {
			above := row[j+1]
			if a[i] == b[j] {
				row[j+1] = diagonal + 1
			} else {
				row[j+1] = max(above, row[j])
			}
			diagonal = above
		}
	}
	return len(a) + len(b) - 2*row[len(b)]
}

func TestRandomStrings(t *testing.T) { // P6.1, P6.2, P6.4
	x := numbers(6)
	for i := range 600 {
		a, b := someString(&x, 40, 2+i%5), someString(&x, 40, 2+i%5)
		if i%3 == 0 {
			b = changed(&x, a)
		}
		checkDistance(t, a, b, rowDistance(a, b))
		checkDiff(t, "random strings", a, b, editsOf(matching(a, b, rowDistance), b))
		checkTransforms(t, a, b)
	}
}

func TestLongRandomStrings(t *testing.T) { // P6.1, P6.4
	x := numbers(7)
	for i := range 30 {
		a := someString(&x, 1500, 2+i%8)
		b := changed(&x, a)
		if i%3 == 0 {
			b = someString(&x, 1500, 2+i%8)
		}
		checkDistance(t, a, b, rowDistance(a, b))
		checkTransforms(t, a, b)
	}
}

// A result is memory of its own, and no call depends on another one.
func TestResultsAreIndependent(t *testing.T) { // P6.2, rules 5 and 6
	want := []api.Edit{{At: 1, Del: 1}, {At: 3, Del: 1}}
	for range 3 {
		edits := textdiff.Diff("aXbYc", "abc")
		if !slices.Equal(edits, want) {
			t.Fatalf("Diff(aXbYc, abc): %s, want %s", short(edits...), short(want...))
		}
		clear(edits[:cap(edits)])
		textdiff.Distance("some other", "strings")
	}
}
