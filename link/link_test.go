package link_test

import (
	"slices"
	"testing"

	"catapult/api"
	"catapult/link"
)

// wordIn is the word of an image's bytes at an address.
func wordIn(t *testing.T, x api.Image, at int) uint32 {
	t.Helper()
	for _, f := range x.Fills {
		if at >= f.At && at+4 <= f.At+len(f.Bytes) {
			b := f.Bytes[at-f.At:]
			return uint32(b[0]) + uint32(b[1])<<8 + uint32(b[2])<<16 + uint32(b[3])<<24
		}
	}
	t.Fatalf("no word at %d", at)
	return 0
}

// The chapter's example.
func TestExample(t *testing.T) {
	o := made(t, "a:", "jump a", ".data", ".word a")
	x := linked(t, "a", rooms(room("stack", 100)), o)
	same(t, "the image", said(x), said(api.Image{
		Ranges: []api.Range{{Name: "text", From: 4096, Size: 16, Exec: true}, {Name: "data", From: 4112, Size: 16, Write: true}, {Name: "stack", From: 4128, Size: 112, Write: true}},
		Fills:  []api.Fill{{At: 4096, Bytes: []byte{0xff, 0xff, 0xff, 0x25}}, {At: 4112, Bytes: []byte{0, 0x10, 0, 0}}},
		Entry:  4096,
	}))
	l, f := link.Symbols(rooms(room("stack", 100)), o)
	same(t, "the symbols", all(l, f), all([]api.Symbol{{Name: "a", At: 4096}, {Name: "stack", At: 4128}, {Name: "stack.end", At: 4240}}, api.Fault{}))
	same(t, "TextBase", link.TextBase, 4096)
}

// 6.1: where all stands, by sizes of text, data and extra ranges.
func TestWhereAllStands(t *testing.T) {
	for _, x := range []struct {
		text, data int
		extra      []api.Range
		ranges     []api.Range // of each From and Size alone
		fills      int
	}{
		{0, 0, nil, []api.Range{{From: 4096}, {From: 4096}}, 0},
		{0, 0, rooms(room("a", 0), room("b", 16), room("c", 0)), []api.Range{{From: 4096}, {From: 4096}, {From: 4096}, {From: 4096, Size: 16}, {From: 4112}}, 0},
		{1, 0, nil, []api.Range{{From: 4096, Size: 16}, {From: 4112}}, 1},
		{0, 1, nil, []api.Range{{From: 4096}, {From: 4096, Size: 16}}, 1},
		{15, 15, rooms(room("a", 15)), []api.Range{{From: 4096, Size: 16}, {From: 4112, Size: 16}, {From: 4128, Size: 16}}, 2},
		{16, 16, rooms(room("a", 16)), []api.Range{{From: 4096, Size: 16}, {From: 4112, Size: 16}, {From: 4128, Size: 16}}, 2},
		{17, 17, rooms(room("a", 17)), []api.Range{{From: 4096, Size: 32}, {From: 4128, Size: 32}, {From: 4160, Size: 32}}, 2},
		{100, 5, rooms(room("a", 1), room("b", 33)), []api.Range{{From: 4096, Size: 112}, {From: 4208, Size: 16}, {From: 4224, Size: 16}, {From: 4240, Size: 48}}, 2},
	} {
		o := api.Object{Text: slices.Repeat([]byte{7}, x.text), Data: slices.Repeat([]byte{8}, x.data), Labels: []api.Label{{Name: "m", At: x.text}}}
		image := linked(t, "m", x.extra, o)
		want := api.Image{Ranges: x.ranges, Entry: 4096 + x.text}
		for i, r := range append(rooms(api.Range{Name: "text", Exec: true}, room("data", 0)), x.extra...) {
			want.Ranges[i].Name, want.Ranges[i].Write, want.Ranges[i].Exec = r.Name, r.Write, r.Exec
		}
		if x.text > 0 {
			want.Fills = append(want.Fills, api.Fill{At: 4096, Bytes: o.Text})
		}
		if x.data > 0 {
			want.Fills = append(want.Fills, api.Fill{At: x.ranges[1].From, Bytes: o.Data})
		}
		same(t, all(x.text, " and ", x.data), said(image), said(want))
		same(t, "how many fills", len(image.Fills), x.fills)
	}
}

// 6.1: extra ranges are as they are given but for From, and Size rounded up, and stand in their order.
func TestExtraRangesAsGiven(t *testing.T) {
	extra := rooms(api.Range{Name: "z"}, api.Range{Name: "y_9", Size: 1, Exec: true}, api.Range{Name: "a", Size: 40, Write: true}, api.Range{Name: "r1", Size: 32, Write: true, Exec: true}, api.Range{Name: "abcdefghijklmnopqrstuvwxyz_0123", Size: 3})
	x := linked(t, "m", extra, made(t, "m:"))
	same(t, "ranges", x.Ranges[2:], rooms(api.Range{Name: "z", From: 4096}, api.Range{Name: "y_9", From: 4096, Size: 16, Exec: true}, api.Range{Name: "a", From: 4112, Size: 48, Write: true},
		api.Range{Name: "r1", From: 4160, Size: 32, Write: true, Exec: true}, api.Range{Name: "abcdefghijklmnopqrstuvwxyz_0123", From: 4192, Size: 16}))
}

// 6.1: what is put in, of each kind, word by word.
func TestWhatIsPutIn(t *testing.T) {
	pad := made(t, ".space 5", ".data", ".space 60", "deep:", ".space 5")
	o := made(t,
		"m:", "jump m", "call m+8", "jump n", "bz r3 m", "bnz r4 n+4", "blu r5 r6 m", "blu r5 r6 n",
		"lui r7 high d", "ori r8 r9 low d", "la r10 far.end", "n:", ".word d+1", "reg r14",
		".data", "d:", ".word n", ".word far", ".word deep+65535")
	x := linked(t, "m", rooms(room("near", 16), room("far", 1<<17)), pad, o)
	same(t, "entry", x.Entry, 4112)
	same(t, "ranges", x.Ranges[1:], rooms(api.Range{Name: "data", From: 4176, Size: 96, Write: true}, api.Range{Name: "near", From: 4272, Size: 16, Write: true}, api.Range{Name: "far", From: 4288, Size: 1 << 17, Write: true}))
	// d is 4256, n 4156, deep 4236, far.end 135360 (0x210c0).
	for i, want := range []uint32{0x25ffffff, 0x26000000, 0x25000008, 0x2203fffc, 0x23040007, 0x2456fffa, 0x24560004,
		0x1a700000, 0x148910a0, 0x1aa00002, 0x14aa10c0, 4257, 0x270e0000} {
		same(t, all("word ", i), wordIn(t, x, 4112+4*i), want)
	}
	for i, want := range []uint32{4156, 4288, 4236 + 65535} {
		same(t, all("word of data ", i), wordIn(t, x, 4256+4*i), want)
	}
}

// 6.1: halves at their edges: the lower one has no sign, and nothing is carried into the upper one.
func TestHalves(t *testing.T) {
	for add, want := range map[int][2]uint32{0: {0, 0x1000}, 0x6fff: {0, 0x7fff}, 0x7000: {0, 0x8000}, 0xefff: {0, 0xffff}, 0xf000: {1, 0}, 0xffff: {1, 0x0fff}} {
		o := made(t, "m:", "lui r1 0", "ori r1 r1 0")
		o.Relocs = []api.Reloc{{At: 0, Kind: api.RelHigh, Name: "m", Add: add}, {At: 4, Kind: api.RelLow, Name: "m", Add: add}}
		x := linked(t, "m", nil, o)
		same(t, all("m+", add), all(wordIn(t, x, 4096), wordIn(t, x, 4100)), all(0x1a100000+want[0], 0x14110000+want[1]))
	}
}

// at is an object of text in which one word waits at a place for the label m at another place.
func at(word uint32, kind, place, label, size int) api.Object {
	o := api.Object{Text: make([]byte, size), Labels: []api.Label{{Name: "m", At: label}}, Relocs: []api.Reloc{{At: place, Kind: kind, Name: "m"}}}
	o.Text[place+2], o.Text[place+3] = byte(word>>16), byte(word>>24)
	return o
}

// 6.1: how far a way may be, on and back, and what is farther: bz, bnz, blu have 16 bits, jump and call reach all there may be.
func TestHowFar(t *testing.T) {
	const most, far = 1 << 17, 1<<20 - 16
	for _, word := range []uint32{0x22070000, 0x23070000, 0x24470000} {
		same(t, "farthest on", wordIn(t, linked(t, "m", nil, at(word, api.RelNear, 0, most, most+4)), 4096), word+0x7fff)
		same(t, "farthest back", wordIn(t, linked(t, "m", nil, at(word, api.RelNear, most, 4, most+4)), 4096+most), word+0x8000)
		faulty(t, "too far on", api.Fault{Code: api.ErrRoom}, false, "m", nil, at(word, api.RelNear, 0, most+4, most+4))
		faulty(t, "too far back", api.Fault{Code: api.ErrRoom}, false, "m", nil, at(word, api.RelNear, most, 0, most+4))
		faulty(t, "very far on", api.Fault{Code: api.ErrRoom}, false, "m", nil, at(word, api.RelNear, 0, far, far))
		faulty(t, "twice as far on as 16 bits have", api.Fault{Code: api.ErrRoom}, false, "m", nil, at(word, api.RelNear, 0, 1<<18+4, far))
	}
	for _, word := range []uint32{0x25000000, 0x26000000} {
		same(t, "too far for 16 bits", wordIn(t, linked(t, "m", nil, at(word, api.RelJump, 0, most+4, most+4)), 4096), word+0x8000)
		same(t, "very far on", wordIn(t, linked(t, "m", nil, at(word, api.RelJump, 0, far, far)), 4096), word+far/4-1)
		same(t, "very far back", wordIn(t, linked(t, "m", nil, at(word, api.RelJump, far-4, 0, far)), 4096+far-4), word+0xffffff&^(far/4-1))
	}
}

// 6.1: a way on is a whole number of words, on and back.
func TestWholeWords(t *testing.T) {
	for _, code := range []string{"jump", "call", "bz r1", "bnz r1", "blu r1 r2"} {
		for more := range 8 {
			for _, ahead := range []bool{false, true} {
				label := made(t, ".space "+all(more), "l:")
				way := made(t, "m:", "li r0 0", code+" l")
				o := []api.Object{way, label}
				if ahead {
					o = []api.Object{label, way}
				}
				if more%4 != 0 {
					faulty(t, code, api.Fault{Code: api.ErrRoom}, false, "m", nil, o...)
					continue
				}
				x, f := link.Link("m", nil, o...)
				want, g := plainLink("m", nil, o...)
				same(t, code, all(said(x), f), all(said(want), g))
			}
		}
	}
	x := linked(t, "m", nil, made(t, ".byte 1 2 3", "o:", ".align 4", "m:", "jump o+1", "jump o+5", "la r1 o", ".word o"))
	same(t, "with Add", all(wordIn(t, x, 4100), wordIn(t, x, 4104)), all(0x25ffffff, 0x25ffffff))
}

// 6.1: the entry is any label of text, where it stands.
func TestEntries(t *testing.T) {
	a, b := made(t, "a:", "li r0 1", ".global b", "b:", ".byte 1", "odd:", ".data", "d:"), made(t, "c:", "end:")
	for name, want := range map[string]int{"a": 4096, "b": 4100, "odd": 4101, "c": 4112, "end": 4112} {
		same(t, name, linked(t, name, nil, a, b).Entry, want)
	}
	for _, name := range []string{"d", "e", "", "text", "data", "stack", "stack.end", "A", "a "} {
		faulty(t, name, api.Fault{Code: api.ErrNone}, false, name, rooms(room("stack", 16)), a, b)
	}
	faulty(t, "nothing at all", api.Fault{Code: api.ErrNone}, false, "a", nil)
	faulty(t, "nothing at all, and no name", api.Fault{Code: api.ErrNone}, false, "", nil)
	same(t, "a label that is named as a range", linked(t, "text", nil, made(t, "li r0 1", "text:")).Entry, 4100)
	faulty(t, "a label of data that is named as a range", api.Fault{Code: api.ErrNone}, false, "text", nil, made(t, ".data", "text:"))
}

// 6.1, 6.2: many objects and extra ranges by chance are linked as the plainest way has it.
func TestManyLinks(t *testing.T) {
	symbols, links := map[api.Errno]int{}, map[api.Errno]int{}
	for seed := range 4000 {
		c := chance(seed*7919 + 3)
		var o []api.Object
		for _, letter := range []string{"a", "b", "c"} {
			if c.below(20) > 0 {
				o = append(o, c.object(t, letter))
			}
		}
		if c.below(60) == 0 {
			o = append(o, of(&c, api.Object{Labels: []api.Label{{Name: "r1"}}}, made(t, "a0:")))
		}
		extra, entry := c.extra(), of(&c, "a0", "b0", "c1", "a0", "b1", "c2", "a.d", "stack")
		x, f := link.Link(entry, extra, o...)
		want, g := plainLink(entry, extra, o...)
		if f != g || said(x) != said(want) {
			t.Fatalf("link %d: %v, %.400s, want %v, %.400s", seed, f, said(x), g, said(want))
		}
		links[g.Code]++
		l, f := link.Symbols(extra, o...)
		names, g := plainSymbols(extra, o...)
		if all(l, f) != all(names, g) {
			t.Fatalf("symbols %d: %v, %v, want %v, %v", seed, f, l, g, names)
		}
		symbols[g.Code]++
	}
	for _, e := range []api.Errno{api.OK, api.ErrRange, api.ErrTwice, api.ErrLong, api.ErrShape, api.ErrLabel, api.ErrLabels, api.ErrRoom, api.ErrNone} {
		if links[e] < 10 {
			t.Errorf("only %d links came to this: %v", links[e], e)
		}
	}
	if links[api.OK] < 1000 || symbols[api.OK] < 3000 {
		t.Errorf("only %d links, %d lists of symbols are right", links[api.OK], symbols[api.OK])
	}
}
