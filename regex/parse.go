package regex

import (
	"strings"

	"emendate/api"
	"emendate/byteset"
)

// The bytes that do not stand for themselves, outside of brackets and inside of them.
const (
	specialOutside = `()[]|*+?.\`
	specialInside  = `]\-`
)

// A part is an expression while it is read. Parts share their kids, because a text such as a++++ stands for an expression of exponential size. Height is the greatest number of expressions on a path from the root.
type part struct {
	kind   int
	set    api.Set
	kids   []*part
	height int
}

// newPart returns the part of the given kind with the given kids.
func newPart(kind int, kids ...*part) *part {
	x := &part{kind: kind, kids: kids, height: 1}
	for _, kid := range kids {
		x.height = max(x.height, kid.height+1)
	}
	return x
}

// expr returns the expression, no parts of which share memory.
func (x *part) expr() api.Regex {
	r := api.Regex{Kind: x.kind, Set: x.set}
	for _, kid := range x.kids {
		r.Kids = append(r.Kids, kid.expr())
	}
	return r
}

// A parser reads a regex by recursive descent. At is the offset of the next byte, which is where the text goes wrong if the parser panics.
type parser struct {
	text string
	at   int
}

// Parse returns the expression that s stands for and the offset 0. If s is no regex, it returns api.ErrSyntax and the offset where s goes wrong; if the expression is nested too deeply, api.ErrLimit and the offset 0.
func Parse(s string) (r api.Regex, at int, err api.Errno) {
	p := &parser{text: s}
	defer func() {
		if recover() != nil {
			r, at, err = api.Regex{}, p.at, api.ErrSyntax
		}
	}()
	x := p.regex()
	if p.at < len(s) { // at a ")" without its "("
		p.fail()
	}
	if x.height > api.MaxNest {
		return api.Regex{}, 0, api.ErrLimit
	}
	return x.expr(), 0, api.OK
}

// fail abandons the text, which goes wrong at the next byte.
func (p *parser) fail() { panic("malformed regex") }

// ahead reports whether the next byte is b.
func (p *parser) ahead(b byte) bool { return p.at < len(p.text) && p.text[p.at] == b }

// skip skips the next byte if it is b, and reports whether it was.
func (p *parser) skip(b byte) bool {
	if !p.ahead(b) {
		return false
	}
	p.at++
	return true
}

func (p *parser) regex() *part {
	branches := []*part{p.branch()}
	for p.skip('|') {
		branches = append(branches, p.branch())
	}
	if len(branches) == 1 {
		return branches[0]
	}
	return newPart(api.RxUnion, branches...)
}

func (p *parser) branch() *part {
	var repeats []*part
	for p.at < len(p.text) && !p.ahead('|') && !p.ahead(')') {
		repeats = append(repeats, p.repeat())
	}
	switch len(repeats) {
	case 0:
		return newPart(api.RxEmpty)
	case 1:
		return repeats[0]
	}
	return newPart(api.RxConcat, repeats...)
}

func (p *parser) repeat() *part {
	x := p.atom()
	for {
		switch {
		case p.skip('*'):
			x = newPart(api.RxStar, x)
		case p.skip('+'):
			x = newPart(api.RxConcat, x, newPart(api.RxStar, x))
		case p.skip('?'):
			x = newPart(api.RxUnion, x, newPart(api.RxEmpty))
		default:
			return x
		}
	}
}

func (p *parser) atom() *part {
	if p.skip('(') {
		x := p.regex()
		if !p.skip(')') {
			p.fail()
		}
		return x
	}
	x := newPart(api.RxSet)
	x.set = p.set()
	return x
}

// set reads an atom that is not a group.
func (p *parser) set() api.Set {
	switch {
	case p.skip('['):
		return p.brackets()
	case p.skip('.'):
		return dot()
	}
	b := p.char(specialOutside)
	return byteset.Range(b, b)
}

// brackets reads a bracket expression behind its "[".
func (p *parser) brackets() api.Set {
	negated := p.skip('^')
	set := p.element()
	for !p.skip(']') {
		set = byteset.Union(set, p.element())
	}
	if negated {
		return byteset.Complement(set)
	}
	return set
}

func (p *parser) element() api.Set {
	lo := p.char(specialInside)
	if !p.skip('-') {
		return byteset.Range(lo, lo)
	}
	at := p.at
	hi := p.char(specialInside)
	if hi < lo {
		p.at = at // an escape goes wrong at its first byte
		p.fail()
	}
	return byteset.Range(lo, hi)
}

// char reads a char where the bytes of special do not stand for themselves.
func (p *parser) char(special string) byte {
	if p.skip('\\') {
		return p.escaped()
	}
	b := p.printing()
	if strings.IndexByte(special, b) >= 0 {
		p.fail()
	}
	p.at++
	return b
}

// escaped reads the byte behind a "\" and returns the byte for which the two stand.
func (p *parser) escaped() byte {
	b := p.printing()
	switch {
	case b == 'n':
		b = '\n'
	case b == 't':
		b = '\t'
	case isLetterOrDigit(b):
		p.fail()
	}
	p.at++
	return b
}

// printing returns the next byte, which must be one from 32 to 126.
func (p *parser) printing() byte {
	if p.at == len(p.text) || p.text[p.at] < ' ' || p.text[p.at] > '~' {
		p.fail()
	}
	return p.text[p.at]
}

func isLetterOrDigit(b byte) bool {
	return '0' <= b && b <= '9' || 'A' <= b && b <= 'Z' || 'a' <= b && b <= 'z'
}

// dot returns the set for which "." stands.
func dot() api.Set { return byteset.Complement(byteset.Of("\n")) }
