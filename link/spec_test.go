package link_test

import (
	"fmt"
	"slices"
	"strings"
	"testing"

	"catapult/api"
	"catapult/asm"
	"catapult/link"
)

// What the document's chapter says, reckoned apart from the program, in the plainest way: names in a list, words by arithmetic.

// plain is a layout in the plainest way.
type plain struct {
	joined api.Object
	ranges []api.Range
	names  []api.Symbol
}

// up is a number rounded up to a multiple of 16.
func up(n int) int {
	for n%16 != 0 {
		n++
	}
	return n
}

// find is what a name stands for, and whether it stands for something.
func (p *plain) find(name string) (int, bool) {
	for _, s := range p.names {
		if s.Name == name {
			return s.At, true
		}
	}
	return 0, false
}

// plainName tells whether an extra range may have a name.
func plainName(s string) bool {
	const letters, more = "abcdefghijklmnopqrstuvwxyz", "0123456789_"
	for i, r := range []byte(s) {
		if !strings.Contains(letters, string(rune(r))) && (i == 0 || !strings.Contains(more, string(rune(r)))) {
			return false
		}
	}
	return len(s) >= 1 && len(s) <= 31
}

// plainLayout is where all stands, or what is wrong there.
func plainLayout(extra []api.Range, o []api.Object) (*plain, api.Fault) {
	joined, f := asm.Join(o...)
	if f != (api.Fault{}) {
		return nil, f
	}
	p := &plain{joined: joined}
	data := 4096 + up(len(joined.Text))
	at := data + up(len(joined.Data))
	p.ranges = []api.Range{{Name: "text", From: 4096, Size: data - 4096, Exec: true}, {Name: "data", From: data, Size: at - data, Write: true}}
	for _, l := range joined.Labels {
		p.names = append(p.names, api.Symbol{Name: l.Name, At: []int{4096, data}[l.Section] + l.At})
	}
	for i, r := range extra {
		if r.From != 0 || r.Size < 0 || r.Size > 1<<20 || !plainName(r.Name) {
			return nil, api.Fault{At: i, Code: api.ErrRange}
		}
		_, stands := p.find(r.Name)
		_, ends := p.find(r.Name + ".end")
		if stands || ends || r.Name == "text" || r.Name == "data" {
			return nil, api.Fault{At: i, Code: api.ErrTwice}
		}
		p.ranges = append(p.ranges, api.Range{Name: r.Name, From: at, Size: up(r.Size), Write: r.Write, Exec: r.Exec})
		p.names = append(p.names, api.Symbol{Name: r.Name, At: at}, api.Symbol{Name: r.Name + ".end", At: at + up(r.Size)})
		at += up(r.Size)
	}
	if at > 4096+1<<20 || len(p.ranges) > 16 {
		return nil, api.Fault{Code: api.ErrLong}
	}
	return p, api.Fault{}
}

// number is what a relocation puts in at a place whose next address is next, and whether that may be.
func number(r api.Reloc, x, next int) (uint32, bool) {
	bits := map[int]int{4: 24, 5: 16}[r.Kind]
	switch r.Kind {
	case 1:
		return uint32(x), true
	case 2:
		return uint32(x) / 65536, true
	case 3:
		return uint32(x) % 65536, true
	}
	words := 0
	for next+4*words < x {
		words++
	}
	for next+4*words > x {
		words--
	}
	return uint32(words) & (1<<bits - 1), next+4*words == x && words >= -1<<(bits-1) && words < 1<<(bits-1)
}

// plainLink is the image of objects, or the first fault.
func plainLink(entry string, extra []api.Range, o ...api.Object) (api.Image, api.Fault) {
	p, f := plainLayout(extra, o)
	if f != (api.Fault{}) {
		return api.Image{}, f
	}
	sections := [][]byte{p.joined.Text, p.joined.Data}
	for k, r := range p.joined.Relocs {
		at, ok := p.find(r.Name)
		if !ok {
			return api.Image{}, api.Fault{At: k, Code: 60}
		}
		n, ok := number(r, at+r.Add, p.ranges[r.Section].From+r.At+4)
		if !ok {
			return api.Image{}, api.Fault{At: k, Code: 61}
		}
		for i := range 4 { // what waits has noughts there
			sections[r.Section][r.At+i] |= byte(n >> (8 * i))
		}
	}
	image := api.Image{Ranges: p.ranges, Entry: -1}
	for i, b := range sections {
		if len(b) > 0 {
			image.Fills = append(image.Fills, api.Fill{At: p.ranges[i].From, Bytes: b})
		}
	}
	for _, l := range p.joined.Labels {
		if l.Name == entry && l.Section == 0 {
			image.Entry = 4096 + l.At
		}
	}
	if image.Entry < 0 {
		return api.Image{}, api.Fault{Code: api.ErrNone}
	}
	return image, api.Fault{}
}

// plainSymbols is all names, or the first fault.
func plainSymbols(extra []api.Range, o ...api.Object) ([]api.Symbol, api.Fault) {
	p, f := plainLayout(extra, o)
	if f != (api.Fault{}) {
		return nil, f
	}
	return inOrder(p.names), api.Fault{}
}

// inOrder is symbols by their addresses, of one address by rising bytes.
func inOrder(l []api.Symbol) []api.Symbol {
	l = slices.Clone(l)
	for i := range l {
		for j := i; j > 0 && (l[j].At < l[j-1].At || l[j].At == l[j-1].At && l[j].Name < l[j-1].Name); j-- {
			l[j], l[j-1] = l[j-1], l[j]
		}
	}
	return l
}

// said is an image in a row.
func said(x api.Image) string {
	s := fmt.Sprintf("entry %d ranges %v", x.Entry, x.Ranges)
	for _, f := range x.Fills {
		s += fmt.Sprintf(" fill %d: %x", f.At, f.Bytes)
	}
	return s
}

// same fails where an answer is another one than what is wanted (an empty list is as none).
func same(t *testing.T, what string, got, want any) {
	t.Helper()
	if g, w := fmt.Sprint(got), fmt.Sprint(want); g != w {
		t.Errorf("%.300s: %.600s, want %.600s", what, g, w)
	}
}

// all is what a call answers, in a row.
func all(l ...any) string { return fmt.Sprint(l...) }

// made is the object of lines that are right.
func made(t *testing.T, lines ...string) api.Object {
	t.Helper()
	o, f := asm.Assemble(asm.Lines(lines...))
	if f != (api.Fault{}) {
		t.Fatalf("Assemble of %.300q: %v", lines, f)
	}
	return o
}

// joined is objects made one, that may be.
func joined(t *testing.T, o ...api.Object) api.Object {
	t.Helper()
	j, f := asm.Join(o...)
	if f != (api.Fault{}) {
		t.Fatalf("Join: %v", f)
	}
	return j
}

// linked is the image of objects that are linked.
func linked(t *testing.T, entry string, extra []api.Range, o ...api.Object) api.Image {
	t.Helper()
	x, f := link.Link(entry, extra, o...)
	if f != (api.Fault{}) {
		t.Fatalf("Link: %v", f)
	}
	return x
}

// faulty fails where objects are linked, or have another fault; symbols: whether Symbols has that fault too.
func faulty(t *testing.T, what string, want api.Fault, symbols bool, entry string, extra []api.Range, o ...api.Object) {
	t.Helper()
	x, f := link.Link(entry, extra, o...)
	same(t, "Link, "+what, f, want)
	same(t, "Link, beside the fault of "+what, all(x.Entry, len(x.Ranges), len(x.Fills)), "0 0 0")
	l, f := link.Symbols(extra, o...)
	if !symbols {
		same(t, "Symbols, "+what, f, api.Fault{})
		return
	}
	same(t, "Symbols, "+what, all(l, f), all([]api.Symbol{}, want))
}

// room is an extra range that is written.
func room(name string, size int) api.Range { return api.Range{Name: name, Size: size, Write: true} }

// rooms is extra ranges.
func rooms(l ...api.Range) []api.Range { return l }

// chance is numbers that look as if they came by chance, and are always the same.
type chance uint32

func (c *chance) next() int {
	*c = *c*1664525 + 1013904223
	return int(*c >> 8)
}

func (c *chance) below(n int) int { return c.next() % n }

// of is one of its arguments.
func of[T any](c *chance, l ...T) T { return l[c.below(len(l))] }

// address is an address, most often of a label that chance makes, a whole number of words behind it.
func (c *chance) address() string {
	name := of(c, "a0", "b0", "c0", "a1", "b1", "c1", "a2", "b2", "c2", "a.d", "b.d", "c.d")
	if c.below(16) == 0 {
		name = of(c, "stack", "stack.end", "arena", "arena.end", "x", "x.end", "text", "data", "none")
	}
	more := of(c, "", "", "", "+4", "+8", "+65532")
	if c.below(40) == 0 {
		more = of(c, "+1", "+2", "+65535")
	}
	return name + more
}

// object is an object by chance, whose labels' names begin with a letter.
func (c *chance) object(t *testing.T, letter string) api.Object {
	t.Helper()
	l := []string{}
	for i := range 3 {
		l = append(l, ".align 4", fmt.Sprint(letter, i, ":"))
		for range c.below(3) {
			l = append(l, of(c, "jump ", "call ", "bz r1 ", "bnz r2 ", "blu r3 r4 ", "la r5 ", "lui r6 high ", "ori r7 r8 low ", ".word ")+c.address())
		}
		l = append(l, of(c, "li r0 1", "add r1 r2 r3", ".byte 1 2 3", ".align 16", ""))
		if c.below(60) == 0 {
			l = append(l, ".space 65536", ".space 65536")
		}
		if c.below(4) == 0 {
			l = append(l, ".data", of(c, ".byte 9", ".space 5", ""), ".text")
		}
	}
	l = append(l, ".data", ".align 4", ".word 1", letter+".d:")
	for range c.below(3) {
		l = append(l, ".word "+c.address())
	}
	return made(t, append(l, of(c, ".byte 7", ".space 16", ".space 1", ""))...)
}

// extra is extra ranges by chance, that are most often right.
func (c *chance) extra() []api.Range {
	var l []api.Range
	for _, name := range []string{"stack", "arena", "x"} {
		if c.below(8) > 0 {
			r := api.Range{Name: name, Size: of(c, 0, 1, 15, 16, 17, 100, 4096, 65536), Write: c.below(2) == 0, Exec: c.below(2) == 0}
			switch c.below(60) {
			case 0:
				r.From = of(c, 16, -16, 4096)
			case 1:
				r.Size = of(c, -1, 1<<20, 1<<20+1)
			case 2:
				r.Name = of(c, "text", "data", "a0", "A", "", "stack", "a.d")
			}
			l = append(l, r)
		}
	}
	return l
}
