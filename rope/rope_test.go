package rope_test

import (
	"math"
	"strings"
	"testing"

	"emendate/api"
	"emendate/rope"
)

// sample returns a text of n bytes in which neighboring blocks differ, with zero bytes and bytes that are no UTF-8.
func sample(n int) string {
	b := make([]byte, n)
	for i := range b {
		b[i] = byte(i*7 + i/64*13 + i/4096)
	}
	return string(b)
}

// numbers is a fixed sequence of numbers that look random.
type numbers uint64

func (x *numbers) below(n int) int {
	*x = *x*6364136223846793005 + 1442695040888963407
	return int(uint64(*x) >> 33 % uint64(n))
}

var lengths = []int{0, 1, 2, 63, 64, 65, 127, 128, 129, 191, 192, 193, 500, 1000, 4000, 4096, 4097, 100000}

// blocks returns the least number of blocks that n bytes need, and powerOf the least k with 2^k >= b, both as the chapter defines them.
func blocks(n int) int { return (n + 63) / 64 }

func powerOf(b int) int {
	k := 0
	for 1<<k < b {
		k++
	}
	return k
}

func heightBound(n int) int {
	if n <= 64 {
		return 0
	}
	return 2*powerOf(blocks(n)) + 2
}

// check compares all that a rope says of its text with the text.
func check(t *testing.T, what string, r rope.Rope, text string) {
	t.Helper()
	if r.Len() != len(text) || r.String() != text {
		t.Fatalf("P1.1: %s: %d bytes %.80q, want %d bytes %.80q", what, r.Len(), r.String(), len(text), text)
	}
	checkHeight(t, what, r)
	var b strings.Builder
	for piece := range r.Chunks() {
		if piece == "" || len(piece) > 64 {
			t.Fatalf("P1.4: %s: a piece of %d bytes", what, len(piece))
		}
		b.WriteString(piece)
	}
	if b.String() != text {
		t.Fatalf("P1.4: %s: the pieces are %.80q, want %.80q", what, b.String(), text)
	}
}

// checkHeight also requires the height that any tree of so many blocks has at least.
func checkHeight(t *testing.T, what string, r rope.Rope) {
	t.Helper()
	least, most := powerOf(blocks(r.Len())), heightBound(r.Len())
	if r.Height() < least || r.Height() > most {
		t.Fatalf("P1.3: %s: %d bytes have height %d, want %d to %d", what, r.Len(), r.Height(), least, most)
	}
}

func replace(t *testing.T, r rope.Rope, e api.Edit) rope.Rope {
	t.Helper()
	q, err := r.Replace(e)
	if err != api.OK {
		t.Fatalf("P1.2: Replace(%d, %d, %.20q) of %d bytes: error %d", e.At, e.Del, e.Ins, r.Len(), err)
	}
	return q
}

func edited(s string, e api.Edit) string { return s[:e.At] + e.Ins + s[e.At+e.Del:] }

func TestNewHasTheText(t *testing.T) { // P1.1
	for _, n := range lengths {
		check(t, "New", rope.New(sample(n)), sample(n))
	}
}

func TestConcatHasBothTexts(t *testing.T) { // P1.1
	for _, m := range lengths {
		for _, n := range lengths {
			a, b := sample(m), sample(n + 1)[1:]
			check(t, "Concat", rope.Concat(rope.New(a), rope.New(b)), a+b)
		}
	}
}

func TestConcatOfEditedRopes(t *testing.T) { // P1.1
	long := sample(1000)
	a := replace(t, rope.New(long), api.Edit{At: 990, Del: 10})
	b := replace(t, rope.New(long), api.Edit{At: 0, Del: 60})
	check(t, "Concat", rope.Concat(a, b), long[:990]+long[60:])
	check(t, "Concat with itself", rope.Concat(a, a), long[:990]+long[:990])
}

func TestByte(t *testing.T) { // P1.2
	for _, n := range []int{0, 1, 64, 65, 500, 4097} {
		s := sample(n)
		r := rope.New(s)
		for i := range n {
			if c, err := r.Byte(i); err != api.OK || c != s[i] {
				t.Fatalf("Byte(%d) of %d bytes: %d, error %d, want %d", i, n, c, err, s[i])
			}
		}
		for _, at := range []int{-1, n, n + 1, math.MinInt, math.MaxInt} {
			if c, err := r.Byte(at); err != api.ErrRange || c != 0 {
				t.Errorf("Byte(%d) of %d bytes: %d, error %d, want ErrRange", at, n, c, err)
			}
		}
	}
}

func TestSlice(t *testing.T) { // P1.2
	s := sample(300)
	r := rope.New(s)
	for from := range len(s) + 1 {
		for to := from; to <= len(s); to++ {
			if x, err := r.Slice(from, to); err != api.OK || x != s[from:to] {
				t.Fatalf("Slice(%d, %d): %q, error %d", from, to, x, err)
			}
		}
	}
	if x, err := rope.New("").Slice(0, 0); err != api.OK || x != "" {
		t.Errorf("Slice of the empty text: %q, error %d", x, err)
	}
}

func TestSliceOutOfRange(t *testing.T) { // P1.2
	for _, n := range []int{0, 5, 64, 300} {
		r := rope.New(sample(n))
		for _, x := range [][2]int{{-1, 0}, {0, n + 1}, {n + 1, n + 1}, {1, 0}, {n, n - 1}, {-2, -1},
			{math.MinInt, 0}, {0, math.MaxInt}, {math.MinInt, math.MaxInt}, {math.MaxInt, math.MaxInt}, {math.MaxInt, math.MinInt}} {
			if s, err := r.Slice(x[0], x[1]); err != api.ErrRange || s != "" {
				t.Errorf("Slice(%d, %d) of %d bytes: %q, error %d, want ErrRange", x[0], x[1], n, s, err)
			}
		}
	}
}

func TestReplaceEverywhere(t *testing.T) { // P1.2
	for _, n := range []int{0, 1, 64, 65, 200, 333} {
		s := sample(n)
		r := rope.New(s)
		for at := 0; at <= n; at++ {
			for _, del := range []int{0, 1, 3, 63, 64, 65, 128, n - at} {
				for _, ins := range []string{"", "x", sample(64), sample(150)} {
					if del > n-at {
						continue
					}
					e := api.Edit{At: at, Del: del, Ins: ins}
					check(t, "Replace", replace(t, r, e), edited(s, e))
				}
			}
		}
	}
}

func TestReplaceOutOfRange(t *testing.T) { // P1.2
	for _, n := range []int{0, 5, 64, 300} {
		r := rope.New(sample(n))
		for _, e := range []api.Edit{{At: -1}, {Del: -1}, {At: n + 1}, {At: n, Del: 1}, {At: 0, Del: n + 1}, {At: n + 1, Del: -1}, {At: -1, Del: 1},
			{At: math.MaxInt}, {At: math.MinInt}, {Del: math.MaxInt}, {Del: math.MinInt}, {At: 1, Del: math.MaxInt},
			{At: math.MaxInt, Del: math.MaxInt}, {At: math.MinInt, Del: math.MinInt}, {At: math.MinInt, Del: math.MaxInt}} {
			e.Ins = "new"
			if q, err := r.Replace(e); err != api.ErrRange || q != (rope.Rope{}) {
				t.Errorf("Replace(%d, %d) of %d bytes: %q, error %d, want ErrRange", e.At, e.Del, n, q.String(), err)
			}
		}
		check(t, "after errors", r, sample(n))
	}
}

func TestExampleOfTheChapter(t *testing.T) { // P1.2
	r := replace(t, rope.New("hello"), api.Edit{At: 1, Del: 2, Ins: "a"})
	check(t, "example", r, "halo")
	if s, err := r.Slice(1, 3); err != api.OK || s != "al" {
		t.Errorf("Slice: %q, error %d", s, err)
	}
	if c, err := r.Byte(4); err != api.ErrRange || c != 0 {
		t.Errorf("Byte: %d, error %d", c, err)
	}
}

func TestHeightOfAShortText(t *testing.T) { // P1.3
	for n := 0; n <= 64; n++ {
		pieces := rope.Rope{}
		for i := range n {
			pieces = rope.Concat(pieces, rope.New(sample(n)[i:i+1]))
		}
		for cut := 0; cut <= n; cut += 7 {
			long := replace(t, rope.New(sample(1000)), api.Edit{At: n - cut, Del: 1000 - n})
			if h := long.Height(); long.Len() != n || h != 0 {
				t.Errorf("%d bytes of a longer text: height %d", long.Len(), h)
			}
		}
		if rope.New(sample(n)).Height() != 0 || pieces.Height() != 0 {
			t.Errorf("%d bytes: height %d, made of pieces %d", n, rope.New(sample(n)).Height(), pieces.Height())
		}
	}
}

func TestHeightOfConcat(t *testing.T) { // P1.3
	for _, size := range []int{1, 31, 33, 63, 64, 65, 200, 1000} {
		piece := rope.New(sample(size))
		after, before := rope.Rope{}, rope.Rope{}
		for range 3000 {
			after, before = rope.Concat(after, piece), rope.Concat(piece, before)
			checkHeight(t, "appended", after)
			checkHeight(t, "prepended", before)
		}
		text := strings.Repeat(sample(size), 3000)
		check(t, "appended", after, text)
		check(t, "prepended", before, text)
	}
}

func TestHeightOfConcatWithItself(t *testing.T) { // P1.3
	r := rope.New(sample(100))
	for range 16 {
		checkHeight(t, "doubled", r)
		r = rope.Concat(r, r)
	}
	check(t, "doubled", r, strings.Repeat(sample(100), 1<<16))
}

func TestHeightOfAppendingByReplace(t *testing.T) { // P1.3
	for _, ins := range []string{"a", sample(40), sample(64), sample(70)} {
		r, s := rope.Rope{}, ""
		for range 2000 {
			e := api.Edit{At: len(s), Ins: ins}
			r, s = replace(t, r, e), s+ins
			checkHeight(t, "appended", r)
		}
		check(t, "appended", r, s)
	}
}

func TestHeightOfPrependingByReplace(t *testing.T) { // P1.3
	for _, ins := range []string{"a", sample(40), sample(64), sample(70)} {
		r := rope.Rope{}
		for range 2000 {
			r = replace(t, r, api.Edit{Ins: ins})
			checkHeight(t, "prepended", r)
		}
		check(t, "prepended", r, strings.Repeat(ins, 2000))
	}
}

func TestHeightOfGrowthAtOnePlace(t *testing.T) { // P1.3
	full := sample(64)
	r := rope.New(sample(4096))
	for i := range 2000 {
		r = replace(t, r, api.Edit{At: 1024 + 64*(i/2), Ins: full})
		checkHeight(t, "grown inside", r)
	}
	check(t, "grown inside", r, sample(4096)[:1024]+strings.Repeat(full, 2000)+sample(4096)[1024:])
}

func TestHeightOfAShrinkingText(t *testing.T) { // P1.3
	s := sample(20000)
	r := rope.New(s)
	for len(s) > 0 {
		e := api.Edit{At: len(s) / 3, Del: min(50, len(s)-len(s)/3)}
		r, s = replace(t, r, e), edited(s, e)
		check(t, "shrunk", r, s)
	}
}

func TestRandomReplacements(t *testing.T) { // P1.2, P1.3
	x := numbers(1)
	for _, most := range []int{2, 70, 400} {
		s := sample(5000)
		r := rope.New(s)
		for range 1500 {
			at := x.below(len(s) + 1)
			e := api.Edit{At: at, Del: min(x.below(most), len(s)-at), Ins: sample(x.below(most))}
			r, s = replace(t, r, e), edited(s, e)
			check(t, "replaced", r, s)
		}
	}
}

func TestRandomConcatenations(t *testing.T) { // P1.1, P1.3
	x := numbers(2)
	ropes, texts := []rope.Rope{{}}, []string{""}
	for i := range 3000 {
		a, b := x.below(len(ropes)), x.below(len(ropes))
		r, s := rope.Concat(ropes[a], ropes[b]), texts[a]+texts[b]
		if i%3 == 0 {
			s = sample(x.below(200))
			r = rope.New(s)
		}
		if len(s) > 20000 {
			at := x.below(len(s))
			e := api.Edit{At: at, Del: len(s) - at}
			r, s = replace(t, r, e), edited(s, e)
		}
		check(t, "concatenated", r, s)
		ropes, texts = append(ropes, r), append(texts, s)
	}
}

func TestChunksOfTheEmptyText(t *testing.T) { // P1.4
	for range rope.New("").Chunks() {
		t.Error("a piece of the empty text")
	}
	for range (rope.Rope{}).Chunks() {
		t.Error("a piece of the zero Rope")
	}
}

func TestChunksCanBeUsedAgain(t *testing.T) { // P1.4
	s := sample(1000)
	pieces := rope.New(s).Chunks()
	for range 3 {
		got := ""
		for p := range pieces {
			got += p
		}
		if got != s {
			t.Fatalf("the pieces are %q", got)
		}
	}
	got := ""
	for p := range pieces { // one iteration inside another
		for q := range pieces {
			got += q
			break
		}
		got += p
	}
	want := ""
	first := ""
	for p := range pieces {
		if first == "" {
			first = p
		}
		want += first + p
	}
	if got != want {
		t.Error("nested iterations disturb each other")
	}
}

func TestChunksCanBeStopped(t *testing.T) { // P1.4
	s := sample(1000)
	pieces := rope.New(s).Chunks()
	count := 0
	for range pieces {
		count++
	}
	for stop := 1; stop <= count; stop++ {
		n, got := 0, ""
		for p := range pieces { // the language panics if a piece follows after the stop
			n++
			got += p
			if n == stop {
				break
			}
		}
		if n != stop || !strings.HasPrefix(s, got) || stop < count && got == s {
			t.Fatalf("stopped after %d pieces of %d: %q", n, stop, got)
		}
	}
}

func TestConcatIsAssociative(t *testing.T) { // P1.5
	for _, l := range lengths[:14] {
		for _, m := range lengths[:14] {
			for _, n := range lengths[:14] {
				a, b, c := rope.New(sample(l)), rope.New(sample(m)), rope.New(sample(n))
				text := sample(l) + sample(m) + sample(n)
				check(t, "(a b) c", rope.Concat(rope.Concat(a, b), c), text)
				check(t, "a (b c)", rope.Concat(a, rope.Concat(b, c)), text)
			}
		}
	}
}

func TestTheZeroRopeIsNeutral(t *testing.T) { // P1.5
	zero := rope.Rope{}
	check(t, "zero", zero, "")
	check(t, "zero twice", rope.Concat(zero, zero), "")
	if c, err := zero.Byte(0); err != api.ErrRange || c != 0 {
		t.Errorf("Byte of the zero Rope: %d, error %d", c, err)
	}
	if s, err := zero.Slice(0, 0); err != api.OK || s != "" {
		t.Errorf("Slice of the zero Rope: %q, error %d", s, err)
	}
	check(t, "inserted into zero", replace(t, zero, api.Edit{Ins: "new"}), "new")
	for _, n := range lengths {
		r := rope.New(sample(n))
		check(t, "zero first", rope.Concat(zero, r), sample(n))
		check(t, "zero last", rope.Concat(r, zero), sample(n))
		emptied := replace(t, r, api.Edit{Del: n})
		check(t, "emptied", emptied, "")
		check(t, "emptied first", rope.Concat(emptied, r), sample(n))
	}
}

func TestInverseReplacementRestores(t *testing.T) { // P1.5
	x := numbers(3)
	for _, n := range lengths[:16] {
		s := sample(n)
		r := rope.New(s)
		for range 200 {
			at := x.below(n + 1)
			e := api.Edit{At: at, Del: x.below(n - at + 1), Ins: sample(x.below(200))}
			old, err := r.Slice(at, at+e.Del)
			if err != api.OK {
				t.Fatalf("Slice: error %d", err)
			}
			q := replace(t, r, e)
			r = replace(t, q, api.Edit{At: at, Del: len(e.Ins), Ins: old})
			check(t, "restored", r, s)
		}
	}
}

func TestEarlierRopesKeepTheirTexts(t *testing.T) { // P1.5
	x := numbers(4)
	s := sample(3000)
	ropes, texts := []rope.Rope{rope.New(s)}, []string{s}
	for range 400 {
		i := x.below(len(ropes))
		at := x.below(len(texts[i]) + 1)
		e := api.Edit{At: at, Del: min(x.below(100), len(texts[i])-at), Ins: sample(x.below(100))}
		ropes, texts = append(ropes, replace(t, ropes[i], e)), append(texts, edited(texts[i], e))
		j := x.below(len(ropes))
		if len(texts[i])+len(texts[j]) < 8000 {
			ropes, texts = append(ropes, rope.Concat(ropes[i], ropes[j])), append(texts, texts[i]+texts[j])
		}
	}
	for i, r := range ropes {
		check(t, "earlier", r, texts[i])
	}
}
