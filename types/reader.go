package types

import (
	"strconv"
	"strings"

	"catapult/api"
	"catapult/lex"
)

// The letters with which codes begin.
const (
	void      = 'v'
	char      = 'c'
	short     = 's'
	integer   = 'i'
	unsigned  = 'u'
	jmpBuf    = 'j'
	pointer   = 'p'
	array     = 'a'
	structure = 'S'
	function  = 'f'
)

// The types in which integers are reckoned.
const (
	intType      = api.Type(integer)
	unsignedType = api.Type(unsigned)
)

// What stands in codes besides.
const (
	countEnd  = ":"
	nameEnd   = ";"
	listOpen  = "("
	listNext  = ","
	listClose = ")"
)

// maxCount is the greatest number of members that a code may tell.
const maxCount = 1 << 40

// place is a place in a code, up to which it is read.
type place struct {
	code string
	at   int
}

// isEnd tells whether all is read.
func (p *place) isEnd() bool { return p.at == len(p.code) }

// letter reads one byte; 0 at the end.
func (p *place) letter() byte {
	if p.isEnd() {
		return 0
	}
	p.at++
	return p.code[p.at-1]
}

// take reads a text, if it comes next, and tells whether it did.
func (p *place) take(s string) bool {
	ok := strings.HasPrefix(p.code[p.at:], s)
	if ok {
		p.at += len(s)
	}
	return ok
}

// upTo reads what stands ahead of the next such text, and that; false, if none comes.
func (p *place) upTo(end string) (string, bool) {
	s, _, ok := strings.Cut(p.code[p.at:], end)
	if ok {
		p.at += len(s) + len(end)
	}
	return s, ok
}

// reader takes types apart, from its place on.
type reader struct{ place }

// takeApart is a type taken apart; false, if it is not of a type's form.
func takeApart(t api.Type) (node, bool) {
	if len(t) > api.MaxText {
		return node{}, false
	}
	r := reader{place{code: string(t)}}
	n, ok := r.one()
	if !ok || !r.isEnd() {
		return node{}, false
	}
	return n, true
}

// one reads the type that comes next; false, if none does.
func (r *reader) one() (node, bool) {
	from := r.at
	n := node{letter: r.letter()}
	ok := false
	switch n.letter {
	case void, char, short, integer, unsigned, jmpBuf:
		ok = true
	case pointer:
		ok = r.part(&n)
	case array:
		n.count, ok = r.count()
		ok = ok && r.part(&n)
	case structure:
		n.tag, ok = r.tag()
	case function:
		ok = r.list(&n) && r.part(&n)
	}
	n.code = api.Type(r.code[from:r.at])
	return n, ok
}

// part reads a type as a part of another one.
func (r *reader) part(of *node) bool {
	n, ok := r.one()
	of.parts = append(of.parts, n)
	return ok
}

// list reads a function's parameters.
func (r *reader) list(of *node) bool {
	if !r.take(listOpen) {
		return false
	}
	if r.take(listClose) {
		return true
	}
	for r.part(of) {
		if !r.take(listNext) {
			return r.take(listClose)
		}
	}
	return false
}

// count reads how many members an array has.
func (r *reader) count() (int, bool) {
	digits, ok := r.upTo(countEnd)
	n, err := strconv.ParseUint(digits, 10, 64)
	if !ok || err != nil || n > maxCount || strconv.FormatUint(n, 10) != digits {
		return 0, false
	}
	return int(n), true
}

// tag reads a struct's name.
func (r *reader) tag() (string, bool) {
	s, ok := r.upTo(nameEnd)
	return s, ok && lex.IsName(s)
}
