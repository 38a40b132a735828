package regex

import (
	"emendate/api"
	"emendate/byteset"
)

// A progress is an expression while a string is read. The marks of its sets stand for the derivative by the bytes read so far, and need no more memory than the expression, however long the string is.
type progress struct {
	kind     int
	set      api.Set
	kids     []progress
	nullable bool
	ends     bool // the mark: whether a string that the expression matches may end behind the last byte
}

func newProgress(r api.Regex) progress {
	p := progress{kind: r.Kind, set: r.Set, nullable: nullable(r), kids: make([]progress, len(r.Kids))}
	for i, kid := range r.Kids {
		p.kids[i] = newProgress(kid)
	}
	return p
}

// read moves on by the byte b. Begins says whether a string that the expression matches may begin with it.
func (p *progress) read(b byte, begins bool) {
	switch p.kind {
	case api.RxSet:
		p.ends = begins && byteset.Has(p.set, b)
	case api.RxConcat:
		p.readConcat(b, begins)
	case api.RxUnion:
		p.ends = false
		for i := range p.kids {
			p.kids[i].read(b, begins)
			p.ends = p.ends || p.kids[i].ends
		}
	case api.RxStar:
		p.kids[0].read(b, begins || p.ends)
		p.ends = p.kids[0].ends
	}
}

func (p *progress) readConcat(b byte, begins bool) {
	p.ends = false
	for i := range p.kids {
		kid := &p.kids[i]
		next := kid.ends || begins && kid.nullable // before b, so that the next kid may begin with it
		kid.read(b, begins)
		p.ends = kid.ends || p.ends && kid.nullable
		begins = next
	}
}

// Match reports whether r matches s. It requires a valid expression or one that Derive returned.
func Match(r api.Regex, s string) bool {
	if !matchable(r) {
		return false
	}
	p := newProgress(r)
	matched := p.nullable
	for i := range len(s) {
		p.read(s[i], i == 0)
		matched = p.ends
	}
	return matched
}
