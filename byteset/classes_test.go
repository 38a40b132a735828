package byteset_test

import (
	"slices"
	"testing"

	"emendate/api"
	"emendate/byteset"
)

func checkClasses(t *testing.T, what string, l []api.Set, want []int) {
	t.Helper()
	if got := byteset.Classes(l); !slices.Equal(got, want) {
		t.Errorf("P7.3: %s: Classes of %s: %v, want %v", what, hexes(l), got, want)
	}
}

// classesOf returns the class numbers of all bytes: 1 for those of the first string, 2 for those of the second one, and so on, and 0 for all others.
func classesOf(others ...string) []int {
	classes := stretch(0, 256)
	for i, s := range others {
		for k := range len(s) {
			classes[s[k]] = i + 1
		}
	}
	return classes
}

// stretch returns n times the number class.
func stretch(class, n int) []int { return slices.Repeat([]int{class}, n) }

func TestClasses(t *testing.T) { // P7.3
	ab, bc := byteset.Of("ab"), byteset.Of("bc")
	low := byteset.Range(0, 127)
	one := stretch(0, 256)
	for _, c := range []struct {
		what string
		l    []api.Set
		want []int
	}{
		{"no set", nil, one},
		{"no set", []api.Set{}, one},
		{"the empty set", []api.Set{empty}, one},
		{"the full set", []api.Set{full}, one},
		{"the empty and the full set", []api.Set{empty, full, empty}, one},
		{"one set", []api.Set{ab}, classesOf("ab")},
		{"one set with byte 0", []api.Set{low}, slices.Concat(stretch(0, 128), stretch(1, 128))},
		{"one set without byte 0", []api.Set{byteset.Complement(low)}, slices.Concat(stretch(0, 128), stretch(1, 128))},
		{"byte 0 alone", []api.Set{byteset.Of("\x00")}, slices.Concat(stretch(0, 1), stretch(1, 255))},
		{"byte 255 alone", []api.Set{byteset.Of("\xff")}, slices.Concat(stretch(0, 255), stretch(1, 1))},
		{"overlapping sets", []api.Set{ab, bc}, classesOf("a", "b", "c")},
		{"overlapping sets, the later bytes first", []api.Set{bc, ab}, classesOf("a", "b", "c")},
		{"overlapping ranges", []api.Set{byteset.Range(50, 149), byteset.Range(100, 199)}, slices.Concat(stretch(0, 50), stretch(1, 50), stretch(2, 50), stretch(3, 50), stretch(0, 56))},
		{"a set within another", []api.Set{byteset.Of("abcd"), byteset.Of("bc")}, classesOf("ad", "bc")},
		{"disjoint sets", []api.Set{byteset.Of("xy"), byteset.Of("ab")}, classesOf("ab", "xy")},
		{"disjoint sets, mixed", []api.Set{byteset.Of("bd"), byteset.Of("ac")}, classesOf("ac", "bd")},
		{"equal sets", []api.Set{ab, ab, ab}, classesOf("ab")},
		{"equal sets among others", []api.Set{ab, bc, ab, bc}, classesOf("a", "b", "c")},
		{"complementary sets", []api.Set{ab, byteset.Complement(ab)}, classesOf("ab")},
		{"complementary sets", []api.Set{byteset.Complement(low), low}, slices.Concat(stretch(0, 128), stretch(1, 128))},
		{"sets that leave nothing", []api.Set{byteset.Range(0, 99), byteset.Range(100, 255)}, slices.Concat(stretch(0, 100), stretch(1, 156))},
		{"the full set among others", []api.Set{full, ab, full, empty}, classesOf("ab")},
		{"sets with common elements in pairs", []api.Set{byteset.Of("ab"), byteset.Of("ac"), byteset.Of("bc")}, classesOf("a", "b", "c")},
		{"all combinations of three sets", []api.Set{byteset.Of("adfg"), byteset.Of("bdeg"), byteset.Of("cefg")}, classesOf("a", "b", "c", "d", "e", "f", "g")},
	} {
		checkClasses(t, c.what, c.l, c.want)
	}
}

// identity has each byte in a class of its own.
func identity() []int {
	var classes []int
	for b := range 256 {
		classes = append(classes, b)
	}
	return classes
}

func TestAllClassesDiffer(t *testing.T) { // P7.3
	var digits, singles, prefixes []api.Set
	for i := range 8 {
		digits = append(digits, setOf(func(b int) bool { return b>>i&1 == 1 }))
	}
	for i := range 256 {
		singles = append(singles, setOf(func(b int) bool { return b == i }))
		prefixes = append(prefixes, setOf(func(b int) bool { return b <= i }))
	}
	for _, c := range []struct {
		what string
		l    []api.Set
	}{
		{"the digits of the bytes", digits},
		{"the sets of one byte", singles},
		{"the ranges from 0 on", prefixes},
		{"more sets than classes", slices.Concat(digits, singles, prefixes)},
	} {
		for range 2 {
			checkClasses(t, c.what, c.l, identity())
			slices.Reverse(c.l)
		}
	}
	for i := range 8 { // one digit does not count
		l := slices.Delete(slices.Clone(digits), i, i+1)
		classes := byteset.Classes(l)
		if n := count(classes); n != 128 {
			t.Errorf("P7.3: %d classes without digit %d", n, i)
		}
		checkClasses(t, "seven digits", l, slowClasses(l))
	}
}

// Each set matters, wherever it is in a long list.
func TestManySets(t *testing.T) { // P7.3
	for _, n := range []int{63, 64, 65, 66, 127, 128, 129, 256, 257, 1000} {
		l := slices.Repeat([]api.Set{byteset.Of("abc")}, n)
		for _, at := range []int{0, 1, 31, 32, 62, n / 2, n - 2, n - 1} {
			l[at] = byteset.Of("bx")
			checkClasses(t, "one other set", l, classesOf("ac", "b", "x"))
			l[at] = byteset.Of("abc")
		}
		checkClasses(t, "equal sets", l, classesOf("abc"))
	}
	var l []api.Set
	for i := range 100 {
		l = append(l, byteset.Of(string([]byte{byte(2 * i), byte(2*i + 1)})))
	}
	var want []int
	for b := range 256 {
		want = append(want, min(b/2, 100))
	}
	checkClasses(t, "100 pairs of bytes", l, want)
	slices.Reverse(l)
	checkClasses(t, "100 pairs of bytes, the last ones first", l, want)
}

// eachList calls f with lists of sets of all kinds.
func eachList(f func(l []api.Set)) {
	sets := someSets()
	for _, a := range sets {
		f([]api.Set{a})
		for _, b := range sets {
			f([]api.Set{a, b})
		}
	}
	x := numbers(77)
	for n := range 80 {
		var l []api.Set
		for range n {
			s := x.set()
			for range x.word() % 4 { // fewer elements, and so fewer classes
				s = common(s, x.set())
			}
			l = append(l, s)
		}
		f(l)
		f(append(l, sets[n%len(sets)]))
	}
}

func TestClassesOfModels(t *testing.T) { // P7.3
	eachList(func(l []api.Set) { checkClasses(t, "by comparison of bytes", l, slowClasses(l)) })
}

// What the promise says, in its own words: no model of the numbers.
func TestClassesAreEquivalences(t *testing.T) { // P7.3
	eachList(func(l []api.Set) {
		classes := byteset.Classes(l)
		if len(classes) != 256 {
			t.Fatalf("P7.3: Classes of %s: %d numbers", hexes(l), len(classes))
		}
		next := 0
		for b, class := range classes {
			if class < 0 || class > next {
				t.Fatalf("P7.3: Classes of %s: byte %d has class %d, the next class is %d", hexes(l), b, class, next)
			}
			if class == next {
				next++
			}
		}
		for _, a := range []int{0, 1, 63, 64, 97, 127, 128, 191, 192, 255} {
			for b := range 256 {
				if (classes[a] == classes[b]) != equivalent(l, a, b) {
					t.Fatalf("P7.3: Classes of %s: bytes %d and %d have classes %d and %d", hexes(l), a, b, classes[a], classes[b])
				}
			}
		}
	})
}

// A result is memory of its own, no call depends on another one, and the list is left alone.
func TestClassesAreIndependent(t *testing.T) { // P7.3, rules 5 and 6
	l := []api.Set{byteset.Of("ab"), byteset.Of("bc"), byteset.Of("x")}
	before := slices.Clone(l)
	want := classesOf("a", "b", "c")
	for range 3 {
		classes := byteset.Classes(l[:2])
		if !slices.Equal(classes, want) {
			t.Fatalf("P7.3: %v, want %v", classes, want)
		}
		for i := range classes[:cap(classes)] {
			classes[:cap(classes)][i] = -1
		}
		byteset.Classes(someSets())
	}
	if !slices.Equal(l, before) {
		t.Errorf("P7.3: the list became %s", hexes(l))
	}
}

func TestBooleanAlgebra(t *testing.T) { // P7.4
	union, both, not, size := byteset.Union, byteset.Intersect, byteset.Complement, byteset.Len
	l := someSets()
	for _, a := range l {
		checkSet(t, "P7.4: the complement of the complement", not(not(a)), a)
		checkSet(t, "P7.4: a set and its complement", union(a, not(a)), full)
		checkSet(t, "P7.4: common to a set and its complement", both(a, not(a)), empty)
		if size(a)+size(not(a)) != 256 {
			t.Errorf("P7.4: %s has %d elements, its complement %d", hex(a), size(a), size(not(a)))
		}
		for _, b := range l {
			checkSet(t, "P7.4: the complement of a union", not(union(a, b)), both(not(a), not(b)))
			checkSet(t, "P7.4: the complement of an intersection", not(both(a, b)), union(not(a), not(b)))
			checkSet(t, "P7.4: absorption in a union", union(a, both(a, b)), a)
			checkSet(t, "P7.4: absorption in an intersection", both(a, union(a, b)), a)
			if size(a)+size(b) != size(union(a, b))+size(both(a, b)) {
				t.Errorf("P7.4: sizes %d of %s and %d of %s, but %d of the union and %d of the intersection", size(a), hex(a), size(b), hex(b), size(union(a, b)), size(both(a, b)))
			}
		}
	}
}

func TestDistributivity(t *testing.T) { // P7.4
	x := numbers(4)
	l := append(someSets()[:20], x.set(), x.set())
	for _, a := range l {
		for _, b := range l {
			for _, c := range l {
				checkSet(t, "P7.4: an intersection with a union", byteset.Intersect(a, byteset.Union(b, c)), byteset.Union(byteset.Intersect(a, b), byteset.Intersect(a, c)))
				checkSet(t, "P7.4: a union with an intersection", byteset.Union(a, byteset.Intersect(b, c)), byteset.Intersect(byteset.Union(a, b), byteset.Union(a, c)))
			}
		}
	}
}

// refines reports whether each class of fine lies in one class of coarse.
func refines(fine, coarse []int) bool {
	within := map[int]int{}
	for b, class := range fine {
		outer, seen := within[class]
		if seen && outer != coarse[b] {
			return false
		}
		within[class] = coarse[b]
	}
	return true
}

func TestAnotherSetRefines(t *testing.T) { // P7.4
	eachList(func(l []api.Set) {
		if len(l) == 0 {
			return
		}
		before, after := byteset.Classes(l[:len(l)-1]), byteset.Classes(l)
		if !refines(after, before) {
			t.Errorf("P7.4: %v of %s do not refine %v", after, hexes(l), before)
		}
		if count(after) < count(before) || count(after) > 2*count(before) {
			t.Errorf("P7.4: %d classes of %s, %d without the last set", count(after), hexes(l), count(before))
		}
	})
}

func TestNumberOfClasses(t *testing.T) { // P7.4
	eachList(func(l []api.Set) {
		most := 256
		if len(l) < 8 {
			most = 1 << len(l)
		}
		if n := count(byteset.Classes(l)); n < 1 || n > most {
			t.Errorf("P7.4: %d classes of %s, at most %d", n, hexes(l), most)
		}
	})
	var l []api.Set
	for n := range 8 { // as many as there can be
		if got := count(byteset.Classes(l)); got != 1<<n {
			t.Errorf("P7.4: %d classes of %d digits", got, n)
		}
		l = append(l, setOf(func(b int) bool { return b>>n&1 == 1 }))
	}
}
