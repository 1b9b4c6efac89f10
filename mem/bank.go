package mem

import (
	"bytes"
	"slices"

	"catapult/api"
	"catapult/word"
)

// How a bank's bytes are cut: in pages, that are kept one by one, and these in pieces, that are held against each other.
const (
	pageBytes  = 1 << 12
	pieceBytes = 1 << 6
)

// page is so many bytes of a bank; those behind the range's end are never touched.
type page [pageBytes]byte

// bank is a range and its bytes: page by page, as they are now, and as they were at the mark.
//
// A page that now and then have in common is not written to any more: it is copied when a byte of it is written.
// So great ranges cost little as long as they are noughts, and clones may have such pages in common.
type bank struct {
	span
	now, then []*page
}

// newBank is a range of noughts: one page stands for all of them.
func newBank(r api.Range) bank {
	pages := (r.Size + pageBytes - 1) / pageBytes
	blank := slices.Repeat([]*page{new(page)}, pages)
	return bank{span: span{r}, now: blank, then: slices.Clone(blank)}
}

// piece is the bytes of a page from one of its places on.
// Its capacity ends where it does: pieces of a page share nothing.
func (p *page) piece(at int) []byte { return p[at : at+pieceBytes : at+pieceBytes] }

// own is a page that may be written to: a copy, if the mark has the same one.
func (b *bank) own(i int) *page {
	if b.now[i] == b.then[i] {
		p := *b.then[i]
		b.now[i] = &p
	}
	return b.now[i]
}

// read takes out the bytes from an address on.
func (b *bank) read(at uint32, l []byte) {
	for place := b.place(at); len(l) > 0; {
		n := copy(l, b.now[place/pageBytes][place%pageBytes:])
		place, l = place+n, l[n:]
	}
}

// fill puts in bytes from an address on.
func (b *bank) fill(at uint32, l []byte) {
	for place := b.place(at); len(l) > 0; {
		n := copy(b.own(place / pageBytes)[place%pageBytes:], l)
		place, l = place+n, l[n:]
	}
}

// load is the n bytes from an address on as a word, above them noughts.
func (b *bank) load(at uint32, n int) uint32 {
	var l [wordBytes]byte
	b.read(at, l[:n])
	w, _ := word.From(l[:])
	return w
}

// mark makes what is now what the bytes are held against.
func (b *bank) mark() { copy(b.then, b.now) }

// clone is a bank of its own that stands where this one does.
func (b *bank) clone() bank {
	c := bank{span: b.span, now: slices.Clone(b.now), then: slices.Clone(b.then)}
	for i, p := range b.now {
		if p != b.then[i] {
			own := *p
			c.now[i] = &own
		}
	}
	return c
}

// changed puts behind a list where the bytes are others now than at the mark.
func (b *bank) changed(l []api.Gap) []api.Gap {
	for i, now := range b.now {
		then := b.then[i]
		if now == then {
			continue
		}
		for at := 0; at < pageBytes; at += pieceBytes {
			l = differing(l, b.From+i*pageBytes+at, now.piece(at), then.piece(at))
		}
	}
	return l
}

// differing puts behind a list where two pieces differ, the first of whose bytes stand at an address.
func differing(l []api.Gap, at int, now, then []byte) []api.Gap {
	if bytes.Equal(now, then) {
		return l
	}
	for i, c := range now {
		if c != then[i] {
			l = with(l, at+i)
		}
	}
	return l
}

// with is a list and an address that is above all of it: joined to the last range, if it stands just behind it.
func with(l []api.Gap, at int) []api.Gap {
	if last := len(l) - 1; last >= 0 && l[last].From+l[last].Size == at {
		l[last].Size++
		return l
	}
	return append(l, api.Gap{From: at, Size: 1})
}
