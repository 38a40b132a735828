package regex

import (
	"strings"

	"emendate/api"
	"emendate/byteset"
)

// escapedInside are the bytes that are escaped inside of brackets, where "^" might be taken for the sign of negation.
const escapedInside = specialInside + "^"

// Format returns the canonical text of r. It requires a printable expression and returns "" for others.
func Format(r api.Regex) string {
	if !Valid(r) || !printable(r) {
		return ""
	}
	var text strings.Builder
	write(&text, r)
	return text.String()
}

// printable reports whether a valid expression is printable.
func printable(r api.Regex) bool {
	switch r.Kind {
	case api.RxNone:
		return false
	case api.RxSet:
		return writable(r.Set) || writable(byteset.Complement(r.Set))
	}
	for _, kid := range r.Kids {
		if !printable(kid) {
			return false
		}
	}
	return true
}

// writable reports whether s is nonempty and contains only writable bytes.
func writable(s api.Set) bool {
	all := byteset.Union(byteset.Range(' ', '~'), byteset.Of("\t\n"))
	return s != api.Set{} && byteset.Union(s, all) == all
}

// write writes the text of a printable expression.
func write(text *strings.Builder, r api.Regex) {
	switch r.Kind {
	case api.RxEmpty:
		text.WriteString("()")
	case api.RxSet:
		writeSet(text, r.Set)
	case api.RxConcat:
		for _, kid := range r.Kids {
			writeKid(text, kid, kid.Kind == api.RxConcat || kid.Kind == api.RxUnion)
		}
	case api.RxUnion:
		for i, kid := range r.Kids {
			if i > 0 {
				text.WriteByte('|')
			}
			writeKid(text, kid, kid.Kind == api.RxUnion)
		}
	case api.RxStar:
		writeKid(text, r.Kids[0], r.Kids[0].Kind != api.RxSet)
		text.WriteByte('*')
	}
}

// writeKid writes the text of r, in parentheses if grouped is set.
func writeKid(text *strings.Builder, r api.Regex, grouped bool) {
	if !grouped {
		write(text, r)
		return
	}
	text.WriteByte('(')
	write(text, r)
	text.WriteByte(')')
}

func writeSet(text *strings.Builder, s api.Set) {
	switch {
	case s == dot():
		text.WriteByte('.')
	case byteset.Len(s) == 1:
		for b := range byteset.All(s) {
			writeChar(text, b, specialOutside)
		}
	case writable(s):
		writeBrackets(text, "[", s)
	default:
		writeBrackets(text, "[^", byteset.Complement(s))
	}
}

// writeBrackets writes a bracket expression with the given start and the elements of s, which are writable.
func writeBrackets(text *strings.Builder, start string, s api.Set) {
	text.WriteString(start)
	for b := byte(0); b <= '~'; b++ {
		if !byteset.Has(s, b) {
			continue
		}
		writeChar(text, b, escapedInside)
		// Tab and line feed are neighbors of each other only, so that no such range contains them.
		if end := lastOfRun(s, b); end-b >= 2 {
			text.WriteByte('-')
			writeChar(text, end, escapedInside)
			b = end
		}
	}
	text.WriteByte(']')
}

// lastOfRun returns the last of the consecutive bytes from b on that are in s, which does not contain the byte 255.
func lastOfRun(s api.Set, b byte) byte {
	for byteset.Has(s, b+1) {
		b++
	}
	return b
}

// writeChar writes a writable byte where the bytes of special are escaped.
func writeChar(text *strings.Builder, b byte, special string) {
	switch {
	case b == '\n':
		text.WriteString(`\n`)
	case b == '\t':
		text.WriteString(`\t`)
	case strings.IndexByte(special, b) >= 0:
		text.WriteByte('\\')
		text.WriteByte(b)
	default:
		text.WriteByte(b)
	}
}
