package regex

import (
	"strings"

	"porter/api"
	"porter/charset"
)

const (
	special = `\.[](){}|*+?` // bytes that do not stand for themselves
	escaped = special + "-^" // bytes that may follow a backslash
)

// parser reads a pattern from the left; faults are raised by panics.
type parser struct {
	s    string
	at   int
	open int // parentheses that are open
}

func (p *parser) fail(e api.Errno, at int) {
	panic(api.Fault{E: e, At: at})
}

// next returns the byte that is read next, and raises ErrEnd if there is none.
func (p *parser) next() byte {
	if p.at == len(p.s) {
		p.fail(api.ErrEnd, p.at)
	}
	return p.s[p.at]
}

// skip reads the byte if it comes next.
func (p *parser) skip(b byte) bool {
	if p.at == len(p.s) || p.s[p.at] != b {
		return false
	}
	p.at++
	return true
}

func (p *parser) need(b byte) {
	if p.next() != b {
		p.fail(api.ErrForm, p.at)
	}
	p.at++
}

// join makes a Cat or an Alt of parts: parts of the same kind are replaced by their kids, and a single kid stands alone.
func join(kind int, parts []api.Node) api.Node {
	var kids []api.Node
	for _, part := range parts {
		if part.Kind == kind {
			kids = append(kids, part.Kids...)
		} else {
			kids = append(kids, part)
		}
	}
	if len(kids) == 1 {
		return kids[0]
	}
	return api.Node{Kind: kind, Kids: kids}
}

func (p *parser) alt() api.Node {
	parts := []api.Node{p.cat()}
	for p.skip('|') {
		parts = append(parts, p.cat())
	}
	return join(api.Alt, parts)
}

func (p *parser) cat() api.Node {
	var parts []api.Node
	for p.at < len(p.s) && p.s[p.at] != '|' && p.s[p.at] != ')' {
		parts = append(parts, p.piece())
	}
	return join(api.Cat, parts)
}

func (p *parser) piece() api.Node {
	kid := p.atom()
	if p.at == len(p.s) {
		return kid
	}
	rep := api.Node{Kind: api.Rep, Kids: []api.Node{kid}, Max: -1}
	switch p.s[p.at] {
	case '+':
		rep.Min = 1
		fallthrough
	case '*':
		p.at++
	case '?':
		p.at++
		rep.Max = 1
	case '{':
		p.at++
		rep.Min, rep.Max = p.braces()
	default:
		return kid
	}
	return rep
}

// braces reads the numbers after an opening brace, and the closing one.
func (p *parser) braces() (low, high int) {
	from := p.at
	low = p.num()
	high = low
	if p.skip(',') {
		if p.skip('}') {
			return low, -1
		}
		from = p.at
		high = p.num()
	}
	if high < max(low, 1) {
		p.fail(api.ErrForm, from)
	}
	p.need('}')
	return low, high
}

func (p *parser) num() int {
	from := p.at
	if !digit(p.next()) {
		p.fail(api.ErrForm, from)
	}
	n := 0
	for p.at < len(p.s) && digit(p.s[p.at]) {
		// Capped, since a long number would overflow.
		n = min(10*n+int(p.s[p.at]-'0'), api.MaxTimes+1)
		p.at++
	}
	if p.s[from] == '0' && p.at > from+1 {
		p.fail(api.ErrForm, from)
	}
	if n > api.MaxTimes {
		p.fail(api.ErrLimit, from)
	}
	return n
}

func digit(b byte) bool {
	return '0' <= b && b <= '9'
}

func (p *parser) atom() api.Node {
	switch b := p.s[p.at]; b {
	case '(':
		return p.group()
	case '.':
		p.at++
		return one(charset.Of(0, 255))
	case '[':
		return one(p.brackets())
	case '\\':
		set, _ := p.escape()
		return one(set)
	default:
		if strings.IndexByte(special, b) >= 0 {
			p.fail(api.ErrForm, p.at)
		}
		p.at++
		return one(charset.Of(b, b))
	}
}

func one(s api.Set) api.Node {
	return api.Node{Kind: api.One, Set: s}
}

func (p *parser) group() api.Node {
	if p.open == api.MaxDepth {
		p.fail(api.ErrLimit, p.at)
	}
	p.open++
	p.need('(')
	n := p.alt()
	p.need(')')
	p.open--
	return n
}

func (p *parser) brackets() api.Set {
	p.need('[')
	not := p.skip('^')
	set := p.item()
	for !p.skip(']') {
		set = charset.Or(set, p.item())
	}
	if not {
		return charset.Not(set)
	}
	return set
}

// item reads a sign, a range of signs, or a class.
func (p *parser) item() api.Set {
	first, class := p.sign()
	if class || !p.skip('-') {
		return first
	}
	from := p.at
	last, class := p.sign()
	if class || charset.First(last) < charset.First(first) {
		p.fail(api.ErrForm, from)
	}
	return charset.Of(byte(charset.First(first)), byte(charset.First(last)))
}

// sign reads a byte within brackets; class is set if it is a class instead.
func (p *parser) sign() (set api.Set, class bool) {
	b := p.next()
	switch b {
	case '\\':
		return p.escape()
	case '[', ']', '-', '^':
		p.fail(api.ErrForm, p.at)
	}
	p.at++
	return charset.Of(b, b), false
}

// escape reads a backslash and what follows it; class is set for a class of bytes.
func (p *parser) escape() (set api.Set, class bool) {
	from := p.at
	p.need('\\')
	b := p.next()
	p.at++
	switch {
	case b == 'd':
		return charset.Of('0', '9'), true
	case b == 'w':
		return charset.Texts("0123456789ABCDEFGHIJKLMNOPQRSTUVWXYZ_abcdefghijklmnopqrstuvwxyz"), true
	case b == 'x':
		high := p.hex(from)
		b = high<<4 | p.hex(from)
	case strings.IndexByte(escaped, b) < 0:
		p.fail(api.ErrForm, from)
	}
	return charset.Of(b, b), false
}

// hex reads a hexadecimal digit of the escape that begins at an index.
func (p *parser) hex(from int) byte {
	b := p.next()
	p.at++
	if digit(b) {
		return b - '0'
	}
	if b < 'a' || b > 'f' {
		p.fail(api.ErrForm, from)
	}
	return b - 'a' + 10
}
