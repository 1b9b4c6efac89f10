package mem_test

import (
	"fmt"
	"maps"
	"slices"
	"strings"
	"testing"

	"catapult/api"
	"catapult/mem"
)

// What the document's chapter says, reckoned apart from the program, in the plainest way: a number for each address.

// of is a range; how: w, if it may be written, x, if it may be run.
func of(name string, from, size int, how string) api.Range {
	return api.Range{Name: name, From: from, Size: size, Write: strings.Contains(how, "w"), Exec: strings.Contains(how, "x")}
}

// layout is ranges of all ways, in no order: some touch, one is empty and stands inside another one, one is of several pages, one ends at the end.
func layout() []api.Range {
	return []api.Range{
		of("stack", 8192, 8208, "w"),
		of("text", 4096, 4096, "x"),
		of("low", 16, 32, "w"),
		of("rom", 48, 16, ""),
		of("empty", 8208, 0, "wx"),
		of("both", 16400, 16, "wx"),
		of("top", 1<<32-48, 48, "wx"),
	}
}

// made is memory of ranges that are right.
func made(t *testing.T, l ...api.Range) *mem.Mem {
	t.Helper()
	m, e := mem.New(l)
	if e != api.OK || m == nil {
		t.Fatalf("New of %v: %v", l, e)
	}
	return m
}

// same fails where an answer is another one than what is wanted (an empty list is as none).
func same(t *testing.T, what string, got, want any) {
	t.Helper()
	if g, w := fmt.Sprint(got), fmt.Sprint(want); g != w {
		t.Errorf("%s: %.300s, want %.300s", what, g, w)
	}
}

// all is what a call answers, in a row.
func all(l ...any) string { return fmt.Sprint(l...) }

// plain is memory in the plainest way.
type plain struct {
	ranges    []api.Range
	now, then map[int]byte
}

func plainOf(l []api.Range) *plain {
	p := &plain{ranges: l, now: map[int]byte{}}
	for _, r := range l {
		for i := range r.Size {
			p.now[r.From+i] = 0
		}
	}
	p.then = maps.Clone(p.now)
	return p
}

func (p *plain) clone() *plain {
	return &plain{p.ranges, maps.Clone(p.now), maps.Clone(p.then)}
}

// owner is the range that an address lies in.
func (p *plain) owner(at int) (api.Range, bool) {
	for _, r := range p.ranges {
		if r.From <= at && at < r.From+r.Size {
			return r, true
		}
	}
	return api.Range{}, false
}

// whole is the range that all of n bytes, one or more, lie in.
func (p *plain) whole(at, n int) (api.Range, bool) {
	r, ok := p.owner(at)
	for i := range n {
		s, there := p.owner(at + i)
		ok = ok && there && s == r
	}
	return r, ok
}

// access is the range of an access, and how it is refused ahead of what the range may.
func (p *plain) access(at uint32, n int) (api.Range, api.Errno) {
	if !slices.Contains([]int{1, 2, 4}, n) {
		return api.Range{}, api.ErrRange
	}
	if at%uint32(n) != 0 {
		return api.Range{}, api.ErrAlign
	}
	r, ok := p.whole(int(at), n)
	if !ok {
		return api.Range{}, api.ErrBad
	}
	return r, api.OK
}

func (p *plain) load(at uint32, n int) (uint32, api.Errno) {
	_, e := p.access(at, n)
	if e != api.OK {
		return 0, e
	}
	w, scale := 0, 1
	for i := range n {
		w += int(p.now[int(at)+i]) * scale
		scale *= 256
	}
	return uint32(w), api.OK
}

func (p *plain) store(at uint32, n int, w uint32) api.Errno {
	r, e := p.access(at, n)
	if e == api.OK && !r.Write {
		e = api.ErrWrite
	}
	if e != api.OK {
		return e
	}
	for i := range n {
		p.now[int(at)+i] = byte(w % 256)
		w /= 256
	}
	return api.OK
}

func (p *plain) fetch(at uint32) (uint32, api.Errno) {
	r, e := p.access(at, 4)
	if e == api.OK && !r.Exec {
		e = api.ErrExec
	}
	if e != api.OK {
		return 0, e
	}
	return p.load(at, 4)
}

func (p *plain) read(at uint32, n int) ([]byte, api.Errno) {
	if n < 0 {
		return nil, api.ErrRange
	}
	if n > 1<<24 {
		return nil, api.ErrLong
	}
	if _, ok := p.whole(int(at), n); !ok && n > 0 {
		return nil, api.ErrBad
	}
	var l []byte
	for i := range n {
		l = append(l, p.now[int(at)+i])
	}
	return l, api.OK
}

func (p *plain) fill(at uint32, b []byte) api.Errno {
	if _, ok := p.whole(int(at), len(b)); !ok && len(b) > 0 {
		return api.ErrBad
	}
	for i, c := range b {
		p.now[int(at)+i] = c
	}
	return api.OK
}

func (p *plain) of(at uint32) (string, int, api.Errno) {
	r, ok := p.owner(int(at))
	if !ok {
		return "", 0, api.ErrBad
	}
	return r.Name, int(at) - r.From, api.OK
}

func (p *plain) mark() { p.then = maps.Clone(p.now) }

func (p *plain) changed() []api.Gap { return differences(p.then, p.now) }

// differences is at which addresses two memories differ, as ranges, rising, as few as there can be.
func differences(then, now map[int]byte) []api.Gap {
	var l []api.Gap
	for _, at := range slices.Sorted(maps.Keys(now)) {
		if now[at] == then[at] {
			continue
		}
		if _, ahead := now[at-1]; ahead && now[at-1] != then[at-1] {
			l[len(l)-1].Size++
		} else {
			l = append(l, api.Gap{From: at, Size: 1})
		}
	}
	return l
}

// bytesOf is all bytes of a memory, by their addresses, as Read tells them.
func bytesOf(t *testing.T, m *mem.Mem) map[int]byte {
	t.Helper()
	l := map[int]byte{}
	for _, r := range m.Ranges() {
		b, e := m.Read(uint32(r.From), r.Size)
		if len(b) != r.Size || e != api.OK {
			t.Fatalf("Read of all of %v: %d bytes, %v", r, len(b), e)
		}
		for i, c := range b {
			l[r.From+i] = c
		}
	}
	return l
}

// unchanged calls f, and fails if what stands in the memory, or what it tells as changed, is another one then.
func unchanged(t *testing.T, what string, m *mem.Mem, f func()) {
	t.Helper()
	was, gaps := bytesOf(t, m), m.Changed()
	f()
	if !maps.Equal(was, bytesOf(t, m)) || !slices.Equal(gaps, m.Changed()) {
		t.Errorf("%s: it is changed", what)
	}
}

// chance is numbers that look like chance, and are always the same.
type chance uint32

func (c *chance) next() uint32 {
	*c = *c*1664525 + 1013904223
	return uint32(*c) ^ uint32(*c)>>16
}

// below is a number from 0 to n - 1.
func (c *chance) below(n int) int { return int(c.next()>>3) % n }
