// Package rope is layer 1: immutable byte sequences with logarithmic slicing, replacement and concatenation. See shared/doc/01-rope.md.
package rope

import (
	"iter"
	"strings"

	"emendate/api"
)

// Rope represents a string, its text. The zero Rope represents the empty string.
type Rope struct{ root *node }

// New returns a rope with the text s.
func New(s string) Rope { return Rope{fromText(s)} }

// Concat returns a rope whose text is the text of a followed by that of b.
func Concat(a, b Rope) Rope { return Rope{join(a.root, b.root)} }

// Len returns the length of the text in bytes.
func (r Rope) Len() int { return r.root.length() }

// String returns the text.
func (r Rope) String() string {
	var b strings.Builder
	b.Grow(r.Len())
	for block := range r.Chunks() {
		b.WriteString(block)
	}
	return b.String()
}

// Byte returns the byte at offset at, or ErrRange.
func (r Rope) Byte(at int) (byte, api.Errno) {
	if at < 0 || at >= r.Len() {
		return 0, api.ErrRange
	}
	return r.root.byteAt(at), api.OK
}

// Slice returns the bytes from offset from up to, not including, offset to, or ErrRange.
func (r Rope) Slice(from, to int) (string, api.Errno) {
	if from < 0 || from > to || to > r.Len() {
		return "", api.ErrRange
	}
	var b strings.Builder
	b.Grow(to - from)
	r.root.visit(from, to, func(piece string) bool {
		b.WriteString(piece)
		return true
	})
	return b.String(), api.OK
}

// Replace returns the rope whose text has the e.Del bytes at offset e.At replaced by e.Ins, or ErrRange.
func (r Rope) Replace(e api.Edit) (Rope, api.Errno) {
	// e.At + e.Del might overflow, so the lengths are compared by a difference.
	if e.At < 0 || e.Del < 0 || e.At > r.Len() || e.Del > r.Len()-e.At {
		return Rope{}, api.ErrRange
	}
	before, rest := split(r.root, e.At)
	_, after := split(rest, e.Del)
	return Rope{join(join(before, fromText(e.Ins)), after)}, api.OK
}

// Height returns the height of the tree that represents the text.
func (r Rope) Height() int { return r.root.depth() }

// Chunks returns an iterator over the text in nonempty pieces of at most 64 bytes.
func (r Rope) Chunks() iter.Seq[string] {
	return func(yield func(string) bool) {
		r.root.visit(0, r.Len(), yield)
	}
}
