package block

import (
	"slices"
	"sort"

	"catapult/api"
)

// pageBytes is how many bytes a page has, a multiple of every scalar's size. The last page of a block may have fewer.
const pageBytes = 64

// bytes is a block's bytes. Only the pages on which something was written are there, in order: most blocks, and most of a great one, are never written.
type bytes struct {
	size  int
	pages []page
}

// page is bytes that stand one behind the other, from a place in a block on.
type page struct {
	at     int
	pieces []api.Byte
}

// end is the place behind a page.
func (p page) end() int { return p.at + len(p.pieces) }

// part is those of a page's bytes that are among n bytes from a place on.
func (p page) part(at, n int) []api.Byte {
	from, to := max(p.at, at), min(p.end(), at+n)
	if from >= to {
		return nil
	}
	return p.pieces[from-p.at : to-p.at]
}

// read puts the bytes from a place on into a list, whose members are unset as yet.
func (b *bytes) read(at int, l []api.Byte) {
	for i := b.first(at); i < len(b.pages) && b.pages[i].at < at+len(l); i++ {
		p := b.pages[i]
		copy(l[max(p.at-at, 0):], p.part(at, len(l)))
	}
}

// write lets bytes stand from a place on.
func (b *bytes) write(at int, l []api.Byte) {
	for done := 0; done < len(l); {
		p := b.page(at + done)
		done += copy(p.pieces[at+done-p.at:], l[done:])
	}
}

// unset takes n bytes from a place on away, with the pages of which none is left.
func (b *bytes) unset(at, n int) {
	b.pages = slices.DeleteFunc(b.pages, func(p page) bool {
		part := p.part(at, n)
		clear(part)
		return len(part) == len(p.pieces)
	})
}

// first is how many pages end ahead of a place, or at it.
func (b *bytes) first(at int) int {
	return sort.Search(len(b.pages), func(i int) bool { return b.pages[i].end() > at })
}

// page is the page of a place, which is there from now on.
func (b *bytes) page(at int) page {
	i := b.first(at)
	if i == len(b.pages) || b.pages[i].at > at {
		from := at - at%pageBytes
		p := page{from, make([]api.Byte, min(pageBytes, b.size-from))}
		b.pages = slices.Insert(b.pages, i, p)
	}
	return b.pages[i]
}

// apart is the same bytes once more, which share nothing with these.
func (b *bytes) apart() bytes {
	c := bytes{size: b.size, pages: slices.Clone(b.pages)}
	for i, p := range c.pages {
		c.pages[i].pieces = slices.Clone(p.pieces)
	}
	return c
}
