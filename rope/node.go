package rope

import "math/bits"

const blockSize = 64

// node is a tree of blocks, and never changes once it is made; nil is the tree of the empty text.
// A leaf has a text, an inner node two children. All nodes of a tree have these properties:
//   - blocks are not empty, and two neighboring blocks do not fit into one; hence there are less than
//     twice as many blocks as necessary, and a text that fits into a block is a leaf;
//   - the height is at most heightBound of the size.
type node struct {
	left, right  *node
	text         string
	size, height int
}

func (t *node) length() int {
	if t == nil {
		return 0
	}
	return t.size
}

func (t *node) depth() int {
	if t == nil {
		return 0
	}
	return t.height
}

func (t *node) isLeaf() bool { return t.left == nil }

func leaf(text string) *node {
	if text == "" {
		return nil
	}
	return &node{text: text, size: len(text)}
}

// heightBound returns the greatest height that a tree of size bytes may have.
func heightBound(size int) int {
	if size <= blockSize {
		return 0
	}
	// With b blocks, the least k with 2^k >= b is the bit length of b - 1.
	lastBlock := (size - 1) / blockSize
	return 2*bits.Len(uint(lastBlock)) + 2
}

// fromText cuts s into full blocks and a rest.
func fromText(s string) *node {
	var leaves []*node
	for len(s) > blockSize {
		leaves = append(leaves, leaf(s[:blockSize]))
		s = s[blockSize:]
	}
	if s != "" {
		leaves = append(leaves, leaf(s))
	}
	return build(leaves)
}

// build returns the tree of least height over the leaves.
func build(leaves []*node) *node {
	switch len(leaves) {
	case 0:
		return nil
	case 1:
		return leaves[0]
	}
	middle := (len(leaves) + 1) / 2
	return inner(build(leaves[:middle]), build(leaves[middle:]))
}

func inner(left, right *node) *node {
	return &node{left: left, right: right, size: left.size + right.size, height: 1 + max(left.height, right.height)}
}

// balanced returns the tree with these children, rebuilt from its blocks if it is too high.
// A rebuilt tree is not too high: with less than 2b blocks, its height is at most k + 1.
// It gets too high again only after changes in proportion to its size, so that the work per change stays logarithmic on average.
func balanced(left, right *node) *node {
	t := inner(left, right)
	if t.height > heightBound(t.size) {
		return build(t.leaves(nil))
	}
	return t
}

func (t *node) leaves(list []*node) []*node {
	if t.isLeaf() {
		return append(list, t)
	}
	return t.right.leaves(t.left.leaves(list))
}

// join returns the tree of the text of a followed by that of b. If the blocks that meet fit into one, they are merged.
func join(a, b *node) *node {
	if a == nil {
		return b
	}
	if b == nil {
		return a
	}
	last, first := a.lastBlock(), b.firstBlock()
	if len(last)+len(first) > blockSize {
		return link(a, b)
	}
	merged := a.withLastBlock(last + first)
	rest := b.withoutFirstBlock()
	if rest == nil {
		return merged
	}
	return link(merged, rest)
}

// link joins two trees whose meeting blocks do not fit into one. It descends into the higher tree, so that the height grows by at most one.
func link(a, b *node) *node {
	switch {
	case a.height > b.height:
		return balanced(a.left, link(a.right, b))
	case a.height < b.height:
		return balanced(link(a, b.left), b.right)
	}
	return balanced(a, b)
}

func (t *node) lastBlock() string {
	for !t.isLeaf() {
		t = t.right
	}
	return t.text
}

func (t *node) firstBlock() string {
	for !t.isLeaf() {
		t = t.left
	}
	return t.text
}

func (t *node) withLastBlock(text string) *node {
	if t.isLeaf() {
		return leaf(text)
	}
	return balanced(t.left, t.right.withLastBlock(text))
}

func (t *node) withoutFirstBlock() *node {
	if t.isLeaf() {
		return nil
	}
	rest := t.left.withoutFirstBlock()
	if rest == nil {
		return t.right
	}
	return balanced(rest, t.right)
}

// split returns the trees of the first at bytes and of the others, where 0 <= at <= t.length().
func split(t *node, at int) (before, after *node) {
	switch {
	case at == 0:
		return nil, t
	case at == t.size:
		return t, nil
	case t.isLeaf():
		return leaf(t.text[:at]), leaf(t.text[at:])
	case at <= t.left.size:
		before, after = split(t.left, at)
		return before, join(after, t.right)
	}
	before, after = split(t.right, at-t.left.size)
	return join(t.left, before), after
}

func (t *node) byteAt(at int) byte {
	for !t.isLeaf() {
		if at < t.left.size {
			t = t.left
		} else {
			at -= t.left.size
			t = t.right
		}
	}
	return t.text[at]
}

// visit yields the nonempty pieces of the blocks between the offsets from and to in order. It reports whether it was not stopped.
func (t *node) visit(from, to int, yield func(string) bool) bool {
	if t == nil {
		return true
	}
	from, to = max(from, 0), min(to, t.size)
	if from >= to {
		return true
	}
	if t.isLeaf() {
		return yield(t.text[from:to])
	}
	return t.left.visit(from, to, yield) && t.right.visit(from-t.left.size, to-t.left.size, yield)
}
