package mem_test

import (
	"math"
	"slices"
	"testing"

	"catapult/api"
	"catapult/mem"
)

// pair is a memory, and what it must be.
type pair struct {
	m *mem.Mem
	p *plain
}

// somewhere is an address, most often about an edge of a range, or where it may be cut inside.
func (c *chance) somewhere(l []api.Range) uint32 {
	r := l[c.below(len(l))]
	at := r.From
	switch c.below(4) {
	case 0:
		at += r.Size
	case 1:
		at += r.Size / 4096 * 4096
	case 2:
		at += c.below(r.Size + 1)
	}
	return uint32(at + c.below(14) - 7)
}

// call makes a call of both, and tells the answers.
func (x pair) call(c *chance) (what, got, want string) {
	at, w := c.somewhere(x.p.ranges), c.next()>>(c.next()%32)
	n := []int{1, 2, 4, 4, 4, 2, 1, 3, 0, -1, 8}[c.below(11)]
	length := []int{0, 1, 2, 3, 5, 8, 15, 16, 31, 100, 5000, -1, c.below(9000)}[c.below(13)]
	if c.below(2) == 0 {
		at &^= 3
	}
	switch c.below(12) {
	case 0, 1, 2, 3:
		return all("Store ", at, n, w), all(x.m.Store(at, n, w)), all(x.p.store(at, n, w))
	case 4, 5, 6:
		got, e := x.m.Load(at, n)
		want, f := x.p.load(at, n)
		return all("Load ", at, n), all(got, e), all(want, f)
	case 7:
		got, e := x.m.Fetch(at)
		want, f := x.p.fetch(at)
		return all("Fetch ", at), all(got, e), all(want, f)
	case 8, 9:
		got, e := x.m.Read(at, length)
		want, f := x.p.read(at, length)
		return all("Read ", at, length), all(got, e), all(want, f)
	case 10:
		b := slices.Repeat([]byte{byte(w)}, max(length, 0))
		return all("Fill ", at, length), all(x.m.Fill(at, b)), all(x.p.fill(at, b))
	}
	name, from, e := x.m.Of(at)
	wantName, wantFrom, f := x.p.of(at)
	return all("Of ", at), all(name, from, e), all(wantName, wantFrom, f)
}

// 3.5 to 3.7: over many calls, of memories and their clones, each answer is that of the plainest memory.
func TestManyCalls(t *testing.T) {
	for seed := range 6 {
		c := chance(seed)
		l := []pair{{made(t, layout()...), plainOf(layout())}}
		for i := range 3000 {
			x := l[c.below(len(l))]
			what, got, want := x.call(&c)
			if got != want {
				t.Fatalf("call %d, %s: %.200s, want %.200s", i, what, got, want)
			}
			if c.below(50) == 0 {
				same(t, "Changed", x.m.Changed(), x.p.changed())
			}
			if c.below(100) == 0 {
				x.m.Mark()
				x.p.mark()
			}
			if c.below(150) == 0 {
				y := pair{x.m.Clone(), x.p.clone()}
				if len(l) < 4 {
					l = append(l, y)
				} else {
					l[c.below(4)] = y
				}
			}
		}
		for _, x := range l {
			same(t, "all bytes at the end", bytesOf(t, x.m), x.p.now)
			same(t, "Changed at the end", x.m.Changed(), x.p.changed())
		}
	}
}

// 3.5: a load tells the last store, byte by byte, whatever came in between elsewhere, and what is refused changes nothing.
func TestLoadTellsLastStore(t *testing.T) {
	m := made(t, layout()...)
	c := chance(7)
	last := map[uint32]byte{}
	for range 20000 {
		at, n, w := c.somewhere(layout()), []int{1, 2, 4, 3}[c.below(4)], c.next()
		if m.Store(at, n, w) == api.OK {
			for i := range n {
				last[at+uint32(i)] = byte(w >> (8 * i))
			}
		}
		if b, e := m.Load(at, 1); e == api.OK && uint32(last[at]) != b {
			t.Fatalf("at %#x: %#x, want %#x", at, b, last[at])
		}
	}
	for at, want := range bytesOf(t, m) {
		if last[uint32(at)] != want {
			t.Fatalf("at %#x: %#x, want %#x", at, want, last[uint32(at)])
		}
	}
}

// 3.6: a word is its four bytes, the lowest first, and two halves; whether they are loaded or stored.
func TestWordIsItsBytes(t *testing.T) {
	m := made(t, of("a", 16, 32, "wx"))
	c := chance(1)
	for i := range 2000 {
		w := c.next()
		at := uint32(16 + 4*(i%8))
		stored(t, m, at, 4, w, api.OK)
		for k := range uint32(4) {
			loaded(t, m, at+k, 1, w>>(8*k)&0xff, api.OK)
		}
		loaded(t, m, at, 2, w&0xffff, api.OK)
		loaded(t, m, at+2, 2, w>>16, api.OK)
		reads(t, m, at, 4, []byte{byte(w), byte(w >> 8), byte(w >> 16), byte(w >> 24)}, api.OK)
		v := c.next()
		for k := range uint32(4) {
			stored(t, m, at+k, 1, v>>(8*k), api.OK)
		}
		loaded(t, m, at, 4, v, api.OK)
		stored(t, m, at+2, 2, w, api.OK)
		stored(t, m, at, 2, v>>16, api.OK)
		loaded(t, m, at, 4, w<<16|v>>16, api.OK)
		fetched(t, m, at, w<<16|v>>16, api.OK)
	}
}

// 3.7: Changed tells just where Reads at the mark and now differ.
func TestChangedIsWhereReadsDiffer(t *testing.T) {
	m := made(t, layout()...)
	c := chance(3)
	for range 40 {
		then := bytesOf(t, m)
		m.Mark()
		for range 1 + c.below(60) {
			at, w := c.somewhere(layout()), c.next()%3
			if c.below(3) > 0 {
				m.Store(at, []int{1, 2, 4}[c.below(3)], w)
			} else {
				m.Fill(at, slices.Repeat([]byte{byte(w)}, 1+c.below(300)))
			}
		}
		same(t, "Changed", m.Changed(), differences(then, bytesOf(t, m)))
	}
}

// R4: what was handed in may be written over, and is not written to; what is answered may be written over and added to.
func TestOwnMemory(t *testing.T) {
	handed := layout()
	m := made(t, handed...)
	same(t, "what was handed in", handed, layout())
	clear(handed)
	same(t, "Ranges", m.Ranges(), layout())
	clear(m.Ranges())
	_ = append(m.Ranges(), of("more", 16, 16, "w"))
	same(t, "Ranges once more", m.Ranges(), layout())

	b := rising(1, 8192)
	fills(t, m, 8192, b, api.OK)
	same(t, "what was filled", b, rising(1, 8192))
	clear(b)
	reads(t, m, 8192, 8192, rising(1, 8192), api.OK)

	for _, n := range []int{1, 16, 64, 4096, 8192} {
		l, _ := m.Read(8192, n)
		clear(l)
		_ = append(l, 0xff, 0xff)
		clear(l[:cap(l)])
		reads(t, m, 8192, 8192, rising(1, 8192), api.OK)
	}
	first, _ := m.Read(8192, 4)
	stored(t, m, 8192, 4, 0, api.OK)
	same(t, "an answer, after a store", first, rising(1, 4))

	gaps := m.Changed()
	was := slices.Clone(gaps)
	clear(m.Changed())
	m.Mark()
	stored(t, m, 16, 4, 1, api.OK)
	same(t, "an answer, after a mark", gaps, was)
	changed(t, "then", m, 16, 1)
}

// R5: two memories of the same ranges are none of each other's.
func TestMemoriesApart(t *testing.T) {
	one, other := made(t, layout()...), made(t, layout()...)
	unchanged(t, "another memory", other, func() {
		for _, r := range layout() {
			fills(t, one, uint32(r.From), slices.Repeat([]byte{9}, r.Size), api.OK)
		}
		one.Mark()
	})
}

// P1, R1: every call answers, whatever it is handed, of any memory, and asking changes nothing.
func TestAnswersWhateverIsHanded(t *testing.T) {
	numbers := []int{math.MinInt, math.MinInt + 1, -1 << 32, -1, 0, 1, 2, 3, 4, 15, 16, 1 << 24, 1<<24 + 1, 1 << 32, 1<<32 + 16, math.MaxInt - 15, math.MaxInt}
	addresses := []uint32{0, 1, 15, 16, 17, 31, 32, 8192, 1 << 31, 1<<32 - 4, 1<<32 - 1}
	memories := []*mem.Mem{made(t), made(t, layout()...), made(t, layout()...).Clone(), made(t).Clone()}
	for _, m := range memories {
		unchanged(t, "what is asked", m, func() {
			for _, at := range addresses {
				for _, n := range numbers {
					w, e := m.Load(at, n)
					again, f := m.Load(at, n)
					same(t, "Load once more", all(w, e), all(again, f))
					b, e := m.Read(at, n)
					same(t, "bytes beside an error", e != api.OK && len(b) > 0, false)
					same(t, "Store of 0", m.Store(at, n, 0), m.Store(at, n, 0))
				}
				m.Fetch(at)
				m.Of(at)
			}
		})
	}
	for _, from := range numbers {
		for _, size := range numbers {
			l := []api.Range{of("a", from, size, "w"), of("b", size, from, "")}
			m, e := mem.New(l)
			same(t, "New is as Check", all(m != nil, e), all(mem.Check(l) == api.OK, mem.Check(l)))
		}
	}
}
