package lexrepair_test

import (
	"math/rand"
	"strings"
	"testing"

	"emendate/lexrepair"
)

func checkDistance(t *testing.T, a, b string, want int) {
	t.Helper()
	if got := lexrepair.Distance(a, b); got != want {
		t.Errorf("P14.1: Distance(%.80q, %.80q): %d, want %d", a, b, got, want)
	}
}

func TestDistancesOfTheChapter(t *testing.T) { // P14.1
	checkDistance(t, "hwile", "while", 1)
	checkDistance(t, "ca", "abc", 3)
}

func TestDistancesOfTheEmptyString(t *testing.T) { // P14.1
	checkDistance(t, "", "", 0)
	for _, s := range []string{"a", "\x00", "\xff", "ab", "aa", "aaa", "while", "é", strings.Repeat("ab", 500)} {
		checkDistance(t, s, "", len(s))
		checkDistance(t, "", s, len(s))
	}
}

func TestSingleOperations(t *testing.T) { // P14.1
	for _, x := range [][]string{
		{"while", "xwhile", "whxile", "whilex", "wwhile", "whiile", "whilee", "while\x00", "\nwhile"}, // insertions
		{"while", "hile", "whle", "whil", "wile", "whie"},                                             // deletions
		{"while", "xhile", "whxle", "whilx", "hhile", "whill", "While", "whil\xff"},                   // replacements
		{"while", "hwile", "wihle", "whlie", "whiel"},                                                 // exchanges
		{"ab", "ba", "a", "b", "aab", "abb", "bb", "aa", "xb", "ax"},
		{"a", "", "b", "aa", "ab", "ba"},
	} {
		for _, s := range x[1:] {
			checkDistance(t, x[0], s, 1)
			checkDistance(t, s, x[0], 1)
		}
		for _, s := range x {
			checkDistance(t, s, s, 0)
		}
	}
}

func TestSeveralOperations(t *testing.T) { // P14.1
	for _, x := range []struct {
		a, b string
		want int
	}{
		{"kitten", "sitting", 3}, {"abcd", "badc", 2}, {"abcdef", "badcfe", 3}, {"abcdef", "ba", 5}, {"abc", "cab", 2}, {"abc", "bca", 2}, {"abc", "cba", 2},
		{"retrun", "return", 1}, {"retrnu", "return", 2}, {"abcdefgh", "bacdfegh", 2}, {"hwiel", "while", 2}, {"wihel", "while", 2}, {"abxcd", "baxdc", 2},
		{"xabcd", "bacdy", 3}, {"abab", "baba", 2}, {"ababa", "babab", 2}, {"aabb", "bbaa", 3}, {"aabb", "abab", 1}, {"abc", "xyz", 3}, {"abc", "xyzw", 4}, {"abcdef", "fedcba", 5},
	} {
		checkDistance(t, x.a, x.b, x.want)
		checkDistance(t, x.b, x.a, x.want)
	}
}

// No byte takes part in two operations: none is inserted between two that are exchanged, deleted from there, or moved by two places, and an exchanged byte is not replaced.
func TestOperationsThatWouldTouchTheSameByte(t *testing.T) { // P14.1
	for _, x := range []struct {
		a, b string
		want int
	}{
		{"ca", "abc", 3}, {"cba", "ac", 3}, {"ab", "bxa", 3}, {"xab", "xbya", 3}, {"ab", "bca", 3}, {"abcd", "bcda", 2}, {"abcd", "dabc", 2}, {"ab", "cb", 1}, {"ab", "ca", 2}, {"ab", "bc", 2},
		{"aabc", "abca", 2}, {"abcx", "cabx", 2}, {"abc", "bcxa", 3}, {"acb", "ba", 3}, {"xacby", "xbay", 3}, {"abcdefgh", "badcxfeg", 5},
	} {
		checkDistance(t, x.a, x.b, x.want)
		checkDistance(t, x.b, x.a, x.want)
	}
}

func TestDistancesOfRepeatedBytes(t *testing.T) { // P14.1
	for n := range 30 {
		for m := range 30 {
			checkDistance(t, strings.Repeat("a", n), strings.Repeat("a", m), max(n-m, m-n))
			checkDistance(t, strings.Repeat("a", n), strings.Repeat("b", m), max(n, m))
			checkDistance(t, strings.Repeat("ab", n), strings.Repeat("ab", m), 2*max(n-m, m-n))
			checkDistance(t, strings.Repeat("ab", n), strings.Repeat("ba", n), min(n, 2))
			checkDistance(t, strings.Repeat("abc", n), strings.Repeat("acb", n), n)
		}
	}
}

func TestDistancesOfEveryByte(t *testing.T) { // P14.1
	for i := range 256 {
		for k := range 256 {
			x, y, different := string([]byte{byte(i)}), string([]byte{byte(k)}), 1
			if i == k {
				different = 0
			}
			checkDistance(t, x, y, different)
			checkDistance(t, x+y, y+x, different)
			checkDistance(t, "ab"+x+y+"ab", "ab"+y+x+"ab", different)
			checkDistance(t, "é"+x, "é"+y, different)
		}
	}
}

func TestDistancesOfAllShortStrings(t *testing.T) { // P14.1
	for _, x := range []struct {
		bytes string
		n     int
	}{{"ab", 6}, {"abc", 4}, {"\x00\n\xff~", 3}} {
		for _, a := range allStrings(x.bytes, x.n) {
			model := outcomes(a, x.bytes, x.n)
			for _, b := range allStrings(x.bytes, x.n) {
				checkDistance(t, a, b, model[b])
			}
		}
	}
}

func TestDistancesOfRandomStrings(t *testing.T) { // P14.1
	random := rand.New(rand.NewSource(2))
	for range 3000 {
		bytes := []string{"ab", "abc", "abcdefgh", "\x00\x80\xff\n a"}[random.Intn(4)]
		a, b := randomString(random, bytes, 20), randomString(random, bytes, 20)
		checkDistance(t, a, b, modelDistance(a, b))
	}
	for range 3000 { // strings that are near to each other
		a := randomString(random, "abcd", 30)
		b := []byte(a)
		for range random.Intn(6) {
			if i := random.Intn(len(b) + 1); i+1 < len(b) {
				b[i], b[i+1] = b[i+1], b[i]
			} else {
				b = append(b, 'x')
			}
		}
		checkDistance(t, a, string(b), modelDistance(a, string(b)))
	}
}

func TestDistancesOfLongStrings(t *testing.T) { // P14.1
	long := strings.Repeat("abcdefghij", 200)
	checkDistance(t, long, long, 0)
	checkDistance(t, long, long[1:]+"k", 2)
	checkDistance(t, long, strings.Repeat("badcfehgji", 200), 1000)
	checkDistance(t, long, "j", 1999)
	checkDistance(t, "z", long, 2000)
	checkDistance(t, long+"xy"+long, long+"yx"+long, 1)
	checkDistance(t, strings.Repeat("\xff", 1<<20), "\xff\x00\xff", 1<<20-2)
	checkDistance(t, "ab", "x"+strings.Repeat("ba", 1<<19), 1<<20-1)
}
