package rope

import (
	"strings"
	"testing"

	"emendate/api"
)

// verify checks the properties that node lists, and that size and height are those of the tree.
func verify(t *testing.T, n *node) {
	t.Helper()
	if n == nil {
		return
	}
	if n.isLeaf() {
		if n.right != nil || n.text == "" || len(n.text) > blockSize || n.size != len(n.text) || n.height != 0 {
			t.Fatalf("a leaf of %d bytes has size %d and height %d", len(n.text), n.size, n.height)
		}
		return
	}
	verify(t, n.left)
	verify(t, n.right)
	if n.text != "" || n.size != n.left.size+n.right.size || n.height != 1+max(n.left.height, n.right.height) {
		t.Fatalf("an inner node has size %d and height %d", n.size, n.height)
	}
	if n.height > heightBound(n.size) {
		t.Fatalf("%d bytes have height %d", n.size, n.height)
	}
	if len(n.left.lastBlock())+len(n.right.firstBlock()) <= blockSize {
		t.Fatalf("neighboring blocks of %d and %d bytes", len(n.left.lastBlock()), len(n.right.firstBlock()))
	}
}

func TestHeightBound(t *testing.T) { // P1.3
	for _, x := range [][2]int{{0, 0}, {1, 0}, {64, 0}, {65, 4}, {128, 4}, {129, 6}, {192, 6}, {256, 6}, {257, 8}, {512, 8}, {513, 10}, {4000, 14}, {64 << 20, 42}, {64<<20 + 1, 44}} {
		if got := heightBound(x[0]); got != x[1] {
			t.Errorf("the height bound of %d is %d, want %d", x[0], got, x[1])
		}
	}
}

func TestTreesKeepTheirProperties(t *testing.T) { // P1.3
	x := uint64(5)
	below := func(n int) int {
		x = x*6364136223846793005 + 1442695040888963407
		return int(x >> 33 % uint64(n))
	}
	r := New(strings.Repeat("abc", 1500))
	verify(t, r.root)
	for range 6000 {
		at := below(r.Len() + 1)
		e := api.Edit{At: at, Del: min(below(90), r.Len()-at), Ins: strings.Repeat("x", below(90))}
		q, err := r.Replace(e)
		if err != api.OK || q.Len() != r.Len()+len(e.Ins)-e.Del {
			t.Fatalf("Replace: %d bytes, error %d", q.Len(), err)
		}
		r = q
		verify(t, r.root)
	}
}

func TestHeightIsThatOfTheTree(t *testing.T) { // P1.3
	for n := 0; n < 5000; n += 61 {
		r := New(strings.Repeat("x", n))
		verify(t, r.root)
		if r.Height() != r.root.depth() {
			t.Errorf("%d bytes: Height is %d, but the tree's is %d", n, r.Height(), r.root.depth())
		}
	}
}

// TestRebuiltTreesAreRare requires that adding blocks at an end makes few nodes for each block. Rebuilding the whole text again and again would make thousands.
func TestRebuiltTreesAreRare(t *testing.T) {
	block := New(strings.Repeat("x", blockSize))
	const count = 20000
	after, before, made := Rope{}, Rope{}, 0
	for range count {
		a, b := Concat(after, block), Concat(block, before)
		made += newNodes(a.root, after.root) + newNodes(b.root, before.root)
		after, before = a, b
	}
	if made > 2*60*count {
		t.Errorf("%d nodes were made for %d blocks", made, 2*count)
	}
}

// newNodes counts the nodes of t, except for the ways of old to its first and last block, what hangs on these ways, and what is below.
func newNodes(t, old *node) int {
	had := map[*node]bool{nil: true}
	for n := old; n != nil; n = n.right {
		had[n], had[n.left] = true, true
	}
	for n := old; n != nil; n = n.left {
		had[n], had[n.right] = true, true
	}
	var count func(n *node) int
	count = func(n *node) int {
		if had[n] {
			return 0
		}
		return 1 + count(n.left) + count(n.right)
	}
	return count(t)
}
