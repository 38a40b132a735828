package byteset_test

import (
	"fmt"
	"slices"
	"strings"

	"emendate/api"
	"emendate/byteset"
)

// members is the model of a set: it says of each byte whether it is an element.
type members [256]bool

// membersOf reads a set as the chapter defines it.
func membersOf(s api.Set) members {
	var m members
	for b := range 256 {
		m[b] = s[b/64]&(1<<(b%64)) != 0
	}
	return m
}

// set returns the set that m describes.
func (m members) set() api.Set {
	var s api.Set
	for b, in := range m {
		if in {
			s[b/64] |= 1 << (b % 64)
		}
	}
	return s
}

// list returns the elements in increasing order.
func (m members) list() []byte {
	var l []byte
	for b, in := range m {
		if in {
			l = append(l, byte(b))
		}
	}
	return l
}

// setOf returns the set of the bytes that has selects.
func setOf(has func(b int) bool) api.Set {
	var m members
	for b := range m {
		m[b] = has(b)
	}
	return m.set()
}

// hex describes a set by its words, the first one first.
func hex(s api.Set) string { return fmt.Sprintf("{%x %x %x %x}", s[0], s[1], s[2], s[3]) }

// hexes describes the first ones of a list of sets.
func hexes(l []api.Set) string {
	var words []string
	for _, s := range l[:min(len(l), 10)] {
		words = append(words, hex(s))
	}
	return fmt.Sprintf("%d sets %s", len(l), strings.Join(words, " "))
}

// borders are the bytes at the ends of the four words.
const borders = "\x00\x3f\x40\x7f\x80\xbf\xc0\xff"

const all = 1<<64 - 1 // a word with all bits

var (
	empty = api.Set{}
	full  = api.Set{all, all, all, all}
)

// numbers is a fixed sequence of numbers that look random.
type numbers uint64

func (x *numbers) word() uint64 {
	*x = *x*6364136223846793005 + 1442695040888963407
	return uint64(*x) ^ uint64(*x)>>29
}

func (x *numbers) set() api.Set { return api.Set{x.word(), x.word(), x.word(), x.word()} }

// someSets returns sets of all kinds, with elements in each of the words.
func someSets() []api.Set {
	l := []api.Set{
		empty, full,
		{all, 0, 0, 0}, {0, all, 0, 0}, {0, 0, all, 0}, {0, 0, 0, all},
		{all, all, 0, 0}, {0, 0, all, all}, {all, 0, all, 0}, {0, all, all, 0},
		{1, 1, 1, 1}, {1 << 63, 1 << 63, 1 << 63, 1 << 63}, {1, 0, 0, 1 << 63}, {1<<63 | 1, 1<<63 | 1, 1<<63 | 1, 1<<63 | 1},
		setOf(func(b int) bool { return b%2 == 0 }),
		setOf(func(b int) bool { return b%2 == 1 }),
		setOf(func(b int) bool { return b%7 == 3 }),
		setOf(func(b int) bool { return b >= 'a' && b <= 'z' }),
		setOf(func(b int) bool { return b >= 60 && b < 200 }),
	}
	for i := range len(borders) {
		at := int(borders[i])
		l = append(l, setOf(func(b int) bool { return b == at }), setOf(func(b int) bool { return b != at }))
	}
	x := numbers(7)
	for range 20 {
		s := x.set()
		sparse := s
		for range 4 {
			sparse = common(sparse, x.set())
		}
		l = append(l, s, sparse)
	}
	return l
}

// common returns the set of the bytes that are in a and in b.
func common(a, b api.Set) api.Set {
	x, y := membersOf(a), membersOf(b)
	return setOf(func(i int) bool { return x[i] && y[i] })
}

// slowClasses compares each byte with the least element of each class before.
func slowClasses(l []api.Set) []int {
	var classes []int
	var least []int // the least element of each class
	for b := range 256 {
		class := slices.IndexFunc(least, func(a int) bool { return equivalent(l, a, b) })
		if class < 0 {
			class = len(least)
			least = append(least, b)
		}
		classes = append(classes, class)
	}
	return classes
}

// equivalent reports whether exactly the same sets of l contain a and b.
func equivalent(l []api.Set, a, b int) bool {
	for _, s := range l {
		if s[a/64]>>(a%64)&1 != s[b/64]>>(b%64)&1 {
			return false
		}
	}
	return true
}

// count returns the number of classes.
func count(classes []int) int { return slices.Max(classes) + 1 }

// collect returns what the iterator of s yields.
func collect(s api.Set) []byte {
	var l []byte
	for b := range byteset.All(s) {
		l = append(l, b)
	}
	return l
}
