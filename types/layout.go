package types

import (
	"catapult/api"
	"catapult/lex"
)

// The bytes of what is no more than one word.
const (
	charBytes  = 1
	shortBytes = 2
	wordBytes  = 4
)

// tooGreat stands for each number of bytes that no object may take.
const tooGreat = api.MaxSize + 1

// extent is an object's bytes, its alignment, and how many scalars it has.
type extent struct{ bytes, align, scalars int }

// times is the extent of an array of so many; what is too great stays so, in however many arrays it stands.
func (x extent) times(n int) extent {
	return extent{min(x.bytes*n, tooGreat), x.align, min(x.scalars*n, tooGreat)}
}

// member is a struct's member: its type taken apart, and where it stands.
type member struct {
	node
	name string
	at   int
}

// layout is a struct laid out.
type layout struct {
	extent
	name    string
	members []member
}

// layouts is the structs that are given.
type layouts []layout

// layOut lays structs out, or finds what is wrong with them.
func layOut(l []api.Struct) (layouts, api.Fault) {
	if len(l) > api.MaxFields {
		return nil, api.Fault{Code: api.ErrLong}
	}
	var known layouts
	for i, s := range l {
		x, e := known.next(s)
		if e != api.OK {
			return nil, api.Fault{At: i, Code: e}
		}
		known = append(known, x)
	}
	return known, api.Fault{}
}

// next lays a struct out behind those that are given.
func (l layouts) next(s api.Struct) (layout, api.Errno) {
	_, isTwice := l.find(s.Name)
	switch {
	case !lex.IsName(s.Name):
		return layout{}, api.ErrForm
	case isTwice:
		return layout{}, api.ErrTwice
	case len(s.Members) > api.MaxFields:
		return layout{}, api.ErrLong
	case len(s.Members) == 0:
		return layout{}, api.ErrShape
	}
	x := layout{name: s.Name}
	for _, m := range s.Members {
		n, e := l.memberType(x, m)
		if e != api.OK {
			return layout{}, e
		}
		size, _ := l.extent(n)
		at := aligned(x.bytes, size.align)
		x.members = append(x.members, member{n, m.Name, at})
		x.extent = extent{at + size.bytes, max(x.align, size.align), x.scalars + size.scalars}
	}
	x.bytes = aligned(x.bytes, x.align)
	if x.bytes > api.MaxSize {
		return layout{}, api.ErrLong
	}
	return x, api.OK
}

// memberType is the type of the next member of a struct, or what is wrong with it or its name.
func (l layouts) memberType(of layout, m api.Member) (node, api.Errno) {
	switch {
	case !lex.IsName(m.Name):
		return node{}, api.ErrForm
	case of.has(m.Name):
		return node{}, api.ErrTwice
	}
	return l.object(m.Type)
}

// has tells whether a struct has a member of that name.
func (x layout) has(name string) bool {
	for _, m := range x.members {
		if m.name == name {
			return true
		}
	}
	return false
}

// find is the struct of that name; false, if it is not given.
func (l layouts) find(name string) (layout, bool) {
	for _, x := range l {
		if x.name == name {
			return x, true
		}
	}
	return layout{}, false
}

// rightType is a type taken apart, and the structs laid out, or what is wrong with these or it.
func rightType(t api.Type, l []api.Struct) (node, layouts, api.Errno) {
	known, f := layOut(l)
	if f.Code != api.OK {
		return node{}, nil, f.Code
	}
	n, e := known.right(t)
	return n, known, e
}

// rightObject is likewise of an object's type.
func rightObject(t api.Type, l []api.Struct) (node, layouts, api.Errno) {
	known, f := layOut(l)
	if f.Code != api.OK {
		return node{}, nil, f.Code
	}
	n, e := known.object(t)
	return n, known, e
}

// right is a type taken apart, or what is wrong with it.
func (l layouts) right(t api.Type) (node, api.Errno) {
	n, ok := takeApart(t)
	switch {
	case !ok:
		return node{}, api.ErrForm
	case n.depth() > api.MaxNest:
		return node{}, api.ErrLong
	case !n.isWellMade():
		return node{}, api.ErrShape
	case l.lacks(n):
		return node{}, api.ErrNone
	case l.hasGreat(n):
		return node{}, api.ErrLong
	}
	return n, api.OK
}

// object is likewise of an object's type.
func (l layouts) object(t api.Type) (node, api.Errno) {
	n, e := l.right(t)
	if e == api.OK && !n.isObject() {
		return node{}, api.ErrShape
	}
	return n, e
}

// lacks tells whether a struct in it is not given, but behind a pointer.
func (l layouts) lacks(n node) bool {
	switch n.letter {
	case structure:
		_, ok := l.find(n.tag)
		return !ok
	case array:
		return l.lacks(n.inner())
	}
	return false // a well made function has no struct but behind pointers
}

// hasGreat tells whether an object in it, or it, takes more bytes than one may.
func (l layouts) hasGreat(n node) bool {
	if x, ok := l.extent(n); ok && x.bytes > api.MaxSize {
		return true
	}
	for _, p := range n.parts {
		if l.hasGreat(p) {
			return true
		}
	}
	return false
}

// extent is what an object takes, of a well made type; false, if it is none, or is made of a struct that is not given.
func (l layouts) extent(n node) (extent, bool) {
	switch n.letter {
	case char:
		return extent{charBytes, charBytes, 1}, true
	case short:
		return extent{shortBytes, shortBytes, 1}, true
	case integer, unsigned, pointer:
		return extent{wordBytes, wordBytes, 1}, true
	case jmpBuf:
		return extent{api.JmpBytes, wordBytes, 0}, true
	case structure:
		x, ok := l.find(n.tag)
		return x.extent, ok
	case array:
		x, ok := l.extent(n.inner())
		return x.times(n.count), ok
	}
	return extent{}, false
}

// scalars adds the scalars of an object that stands at a place to those that are told.
func (l layouts) scalars(n node, at int, told []api.Piece) []api.Piece {
	switch n.letter {
	case array:
		x, _ := l.extent(n.inner())
		for i := range n.count {
			told = l.scalars(n.inner(), at+i*x.bytes, told)
		}
	case structure:
		x, _ := l.find(n.tag)
		for _, m := range x.members {
			told = l.scalars(m.node, at+m.at, told)
		}
	case jmpBuf: // has none
	default:
		told = append(told, api.Piece{At: at, Type: n.code})
	}
	return told
}

// aligned is the first multiple of an alignment that is not below a number of bytes.
func aligned(bytes, align int) int { return (bytes + align - 1) / align * align }
