package byteset_test

import (
	"iter"
	"slices"
	"strings"
	"testing"

	"emendate/api"
	"emendate/byteset"
)

func checkSet(t *testing.T, what string, got, want api.Set) {
	t.Helper()
	if got != want {
		t.Errorf("%s: %s, want %s", what, hex(got), hex(want))
	}
}

// everyByte is the string of all bytes in order.
func everyByte() string { return string(membersOf(full).list()) }

func TestOf(t *testing.T) { // P7.1
	every := everyByte()
	for _, c := range []struct {
		s    string
		want api.Set
	}{
		{"", empty},
		{"\x00", api.Set{1, 0, 0, 0}},
		{"\x3f", api.Set{1 << 63, 0, 0, 0}},
		{"\x40", api.Set{0, 1, 0, 0}},
		{"\x7f", api.Set{0, 1 << 63, 0, 0}},
		{"\x80", api.Set{0, 0, 1, 0}},
		{"\xbf", api.Set{0, 0, 1 << 63, 0}},
		{"\xc0", api.Set{0, 0, 0, 1}},
		{"\xff", api.Set{0, 0, 0, 1 << 63}},
		{borders, api.Set{1<<63 | 1, 1<<63 | 1, 1<<63 | 1, 1<<63 | 1}},
		{"abc", api.Set{0, 7 << 33, 0, 0}},
		{"cab", api.Set{0, 7 << 33, 0, 0}},
		{"aaa", api.Set{0, 1 << 33, 0, 0}},
		{"abcabca", api.Set{0, 7 << 33, 0, 0}},
		{"\x00\x00", api.Set{1, 0, 0, 0}},
		{"\xff\xff\xff", api.Set{0, 0, 0, 1 << 63}},
		{"é", api.Set{0, 0, 1 << (0xa9 - 128), 1 << (0xc3 - 192)}}, // its bytes
		{"\ufffd", api.Set{0, 0, 1<<(0xbf-128) | 1<<(0xbd-128), 1 << (0xef - 192)}},
		{every, full},
		{every + every, full},
		{every[:128], api.Set{all, all, 0, 0}},
		{every[1:], api.Set{all - 1, all, all, all}},
		{every[:255], api.Set{all, all, all, all >> 1}},
		{strings.Repeat("a", 1000000) + "\xff", api.Set{0, 1 << 33, 0, 1 << 63}},
	} {
		if got := byteset.Of(c.s); got != c.want {
			t.Errorf("P7.1: Of(%.20q): %s, want %s", c.s, hex(got), hex(c.want))
		}
	}
}

func TestOfModels(t *testing.T) { // P7.1
	for _, want := range someSets() {
		l := membersOf(want).list()
		checkSet(t, "P7.1: Of the elements in order", byteset.Of(string(l)), want)
		slices.Reverse(l)
		checkSet(t, "P7.1: Of the elements backwards", byteset.Of(string(l)), want)
		checkSet(t, "P7.1: Of the elements twice", byteset.Of(string(l)+string(l)), want)
	}
	for a := range 256 {
		checkSet(t, "P7.1: Of one byte", byteset.Of(string([]byte{byte(a)})), setOf(func(b int) bool { return b == a }))
	}
}

func TestRange(t *testing.T) { // P7.1
	for _, c := range []struct {
		lo, hi byte
		want   api.Set
	}{
		{'a', 'c', api.Set{0, 7 << 33, 0, 0}},
		{'a', 'a', api.Set{0, 1 << 33, 0, 0}},
		{'b', 'a', empty},
		{0, 0, api.Set{1, 0, 0, 0}},
		{255, 255, api.Set{0, 0, 0, 1 << 63}},
		{0, 255, full},
		{255, 0, empty},
		{1, 0, empty},
		{255, 254, empty},
		{1, 254, api.Set{all - 1, all, all, all >> 1}},
		{0, 63, api.Set{all, 0, 0, 0}},
		{64, 127, api.Set{0, all, 0, 0}},
		{128, 191, api.Set{0, 0, all, 0}},
		{192, 255, api.Set{0, 0, 0, all}},
		{63, 64, api.Set{1 << 63, 1, 0, 0}},
		{127, 128, api.Set{0, 1 << 63, 1, 0}},
		{191, 192, api.Set{0, 0, 1 << 63, 1}},
		{64, 63, empty},
		{0, 64, api.Set{all, 1, 0, 0}},
		{63, 192, api.Set{1 << 63, all, all, 1}},
	} {
		if got := byteset.Range(c.lo, c.hi); got != c.want {
			t.Errorf("P7.1: Range(%d, %d): %s, want %s", c.lo, c.hi, hex(got), hex(c.want))
		}
	}
}

func TestAllRanges(t *testing.T) { // P7.1
	for lo := range 256 {
		for hi := range 256 {
			got := byteset.Range(byte(lo), byte(hi))
			if want := setOf(func(b int) bool { return lo <= b && b <= hi }); got != want {
				t.Fatalf("P7.1: Range(%d, %d): %s, want %s", lo, hi, hex(got), hex(want))
			}
		}
	}
}

func TestHas(t *testing.T) { // P7.1
	l := someSets()
	for i := range len(borders) {
		l = append(l, byteset.Of(borders[i:i+1]), byteset.Range(borders[i], 255), byteset.Range(0, borders[i]))
	}
	l = append(l, byteset.Of(""), byteset.Of("hello"), byteset.Of(borders), byteset.Of(everyByte()), byteset.Range(2, 1))
	for _, s := range l {
		for b, want := range membersOf(s) {
			if got := byteset.Has(s, byte(b)); got != want {
				t.Errorf("P7.1: Has(%s, %d): %t", hex(s), b, got)
			}
		}
	}
}

func TestHasOfStringsAndRanges(t *testing.T) { // P7.1
	hello := byteset.Of("hello")
	for b := range 256 {
		if got, want := byteset.Has(hello, byte(b)), strings.IndexByte("hello", byte(b)) >= 0; got != want {
			t.Errorf("P7.1: hello has %d: %t", b, got)
		}
		if got, want := byteset.Has(byteset.Range(60, 70), byte(b)), b >= 60 && b <= 70; got != want {
			t.Errorf("P7.1: 60 to 70 has %d: %t", b, got)
		}
	}
}

func TestOperations(t *testing.T) { // P7.2
	for _, c := range []struct {
		a, b, union, common api.Set
	}{
		{empty, empty, empty, empty},
		{empty, full, full, empty},
		{full, full, full, full},
		{api.Set{1, 2, 4, 8}, empty, api.Set{1, 2, 4, 8}, empty},
		{api.Set{1, 2, 4, 8}, full, full, api.Set{1, 2, 4, 8}},
		{api.Set{1, 2, 4, 8}, api.Set{2, 4, 8, 16}, api.Set{3, 6, 12, 24}, empty},
		{api.Set{7, 7, 7, 7}, api.Set{14, 28, 1 << 63, 1}, api.Set{15, 31, 1<<63 | 7, 7}, api.Set{6, 4, 0, 1}},
		{api.Set{all, 0, 0, 0}, api.Set{0, 0, 0, all}, api.Set{all, 0, 0, all}, empty},
		{byteset.Of("ab"), byteset.Of("bc"), byteset.Of("abc"), byteset.Of("b")},
		{byteset.Range('a', 'm'), byteset.Range('h', 'z'), byteset.Range('a', 'z'), byteset.Range('h', 'm')},
		{byteset.Range(0, 130), byteset.Range(60, 255), full, byteset.Range(60, 130)},
	} {
		checkSet(t, "P7.2: Union", byteset.Union(c.a, c.b), c.union)
		checkSet(t, "P7.2: Union", byteset.Union(c.b, c.a), c.union)
		checkSet(t, "P7.2: Intersect", byteset.Intersect(c.a, c.b), c.common)
		checkSet(t, "P7.2: Intersect", byteset.Intersect(c.b, c.a), c.common)
	}
	for _, c := range []struct{ s, want api.Set }{
		{empty, full},
		{full, empty},
		{api.Set{1, 2, 4, 8}, api.Set{all - 1, all - 2, all - 4, all - 8}},
		{byteset.Range(0, 99), byteset.Range(100, 255)},
		{byteset.Of("\x00\xff"), byteset.Range(1, 254)},
	} {
		checkSet(t, "P7.2: Complement", byteset.Complement(c.s), c.want)
	}
}

func TestOperationsByteByByte(t *testing.T) { // P7.2
	l := someSets()
	for _, a := range l {
		x := membersOf(a)
		checkSet(t, "P7.2: Complement", byteset.Complement(a), setOf(func(i int) bool { return !x[i] }))
		for _, b := range l {
			y := membersOf(b)
			checkSet(t, "P7.2: Union", byteset.Union(a, b), setOf(func(i int) bool { return x[i] || y[i] }))
			checkSet(t, "P7.2: Intersect", byteset.Intersect(a, b), setOf(func(i int) bool { return x[i] && y[i] }))
		}
	}
}

func TestLen(t *testing.T) { // P7.2
	check := func(s api.Set, want int) {
		t.Helper()
		if got := byteset.Len(s); got != want {
			t.Errorf("P7.2: Len(%s): %d, want %d", hex(s), got, want)
		}
	}
	check(empty, 0)
	check(full, 256)
	check(api.Set{1, 3, 7, 15}, 10)
	check(byteset.Of("hello"), 4)
	check(byteset.Complement(byteset.Of("ab")), 254)
	check(byteset.Range('a', 'z'), 26)
	for b := range 256 {
		check(byteset.Of(string([]byte{byte(b)})), 1)
		check(byteset.Range(0, byte(b)), b+1)
	}
	l := someSets()
	for _, a := range l {
		check(a, len(membersOf(a).list()))
		for _, b := range l {
			check(byteset.Union(a, b), len(membersOf(byteset.Union(a, b)).list()))
		}
	}
}

func TestAll(t *testing.T) { // P7.2
	for _, c := range []struct {
		s    api.Set
		want string
	}{
		{empty, ""},
		{full, everyByte()},
		{byteset.Of("cab\xff\x00"), "\x00abc\xff"},
		{byteset.Of(borders), borders},
		{byteset.Range('a', 'e'), "abcde"},
		{byteset.Range(62, 65), ">?@A"},
	} {
		if got := collect(c.s); string(got) != c.want {
			t.Errorf("P7.2: All(%s): %q, want %q", hex(c.s), got, c.want)
		}
	}
	for _, s := range someSets() {
		if got, want := collect(s), membersOf(s).list(); !slices.Equal(got, want) {
			t.Errorf("P7.2: All(%s): %v, want %v", hex(s), got, want)
		}
	}
	for b := range 256 {
		if got := collect(setOf(func(a int) bool { return a == b })); len(got) != 1 || got[0] != byte(b) {
			t.Errorf("P7.2: All of the set of %d: %v", b, got)
		}
	}
}

func TestAllStopped(t *testing.T) { // P7.2
	for _, s := range someSets() {
		want := membersOf(s).list()
		for stop := 1; stop <= len(want); stop++ {
			var got []byte
			// An iterator that goes on after false calls the function once more.
			byteset.All(s)(func(b byte) bool {
				got = append(got, b)
				return len(got) != stop
			})
			if !slices.Equal(got, want[:stop]) {
				t.Errorf("P7.2: All(%s) stopped at element %d: %v, want %v", hex(s), stop, got, want[:stop])
			}
		}
	}
}

func TestAllWithBreak(t *testing.T) { // P7.2
	for _, last := range []byte{0, 63, 64, 100, 191, 192, 255} { // the first element, some in the middle, the last one
		n := 0
		for b := range byteset.All(full) {
			n++
			if b == last {
				break
			}
		}
		if n != int(last)+1 {
			t.Errorf("P7.2: All of the full set stopped at %d: %d elements", last, n)
		}
	}
}

// An iterator keeps no state: it begins anew each time, also after it was stopped, and in loops within loops.
func TestAllAgain(t *testing.T) { // P7.2, rule 6
	s := byteset.Of("x\x00\xffabc")
	elements := byteset.All(s)
	for range elements {
		break
	}
	var pairs strings.Builder
	for a := range elements {
		for b := range elements {
			pairs.Write([]byte{a, b})
		}
	}
	var want strings.Builder
	for _, a := range membersOf(s).list() {
		for _, b := range membersOf(s).list() {
			want.Write([]byte{a, b})
		}
	}
	if pairs.String() != want.String() {
		t.Errorf("P7.2: the pairs of elements are %q, want %q", pairs.String(), want.String())
	}
}

// The iterators of two sets do not disturb each other, and yield what the sets were when they were made.
func TestAllOfTwoSets(t *testing.T) { // P7.2, rule 6
	a, b := byteset.Of("ace"), byteset.Of("bdf")
	nextA, stopA := iter.Pull(byteset.All(a))
	nextB, stopB := iter.Pull(byteset.All(b))
	defer stopA()
	defer stopB()
	a, b = empty, full
	var got []byte
	for range 3 {
		x, _ := nextA()
		y, _ := nextB()
		got = append(got, x, y)
	}
	_, moreA := nextA()
	_, moreB := nextB()
	if string(got) != "abcdef" || moreA || moreB {
		t.Errorf("P7.2: two iterators by turns: %q, more: %t and %t", got, moreA, moreB)
	}
}
