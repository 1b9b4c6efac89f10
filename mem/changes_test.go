package mem_test

import (
	"bytes"
	"slices"
	"testing"

	"catapult/api"
	"catapult/mem"
)

// changed fails where others are told as changed: from, size, from, size ..
func changed(t *testing.T, what string, m *mem.Mem, want ...int) {
	t.Helper()
	var l []api.Gap
	for i := 0; i < len(want); i += 2 {
		l = append(l, api.Gap{From: want[i], Size: want[i+1]})
	}
	same(t, what+": Changed", m.Changed(), l)
}

// 3.4: the range of an address, and how far it is from its beginning.
func TestOf(t *testing.T) {
	m := made(t, layout()...)
	for _, x := range []struct {
		at   uint32
		name string
		from int
	}{
		{16, "low", 0}, {17, "low", 1}, {47, "low", 31}, {48, "rom", 0}, {63, "rom", 15}, {4096, "text", 0}, {8191, "text", 4095}, {8192, "stack", 0},
		{8207, "stack", 15}, {8208, "stack", 16}, {16399, "stack", 8207}, {16400, "both", 0}, {16415, "both", 15}, {1<<32 - 48, "top", 0}, {1<<32 - 1, "top", 47},
	} {
		name, from, e := m.Of(x.at)
		same(t, all("Of ", x.at), all(name, from, e), all(x.name, x.from, api.OK))
	}
	for _, at := range []uint32{0, 1, 15, 64, 100, 4095, 16416, 1 << 31, 1<<32 - 49} {
		name, from, e := m.Of(at)
		same(t, all("Of ", at), all(name, from, e), all("", 0, api.ErrBad))
	}
	for _, bare := range []*mem.Mem{made(t), made(t, of("a", 16, 0, "w")), made(t, of("a", 1<<32, 0, "w"))} {
		for _, at := range []uint32{0, 15, 16, 17, 1<<32 - 1} {
			name, from, e := bare.Of(at)
			same(t, all("Of ", at), all(name, from, e), all("", 0, api.ErrBad))
		}
	}
}

// 3.4: what is changed is whose value is another one, whether it was stored or filled, and not what was written as it was.
func TestChangedIsAnotherValue(t *testing.T) {
	m := made(t, of("a", 16, 64, "w"))
	changed(t, "at first", m)
	stored(t, m, 16, 4, 0, api.OK)
	fills(t, m, 20, make([]byte, 9), api.OK)
	changed(t, "noughts", m)
	stored(t, m, 20, 4, 0x00010000, api.OK)
	changed(t, "one byte of a word", m, 22, 1)
	stored(t, m, 24, 4, 0x01000001, api.OK)
	changed(t, "the outer bytes of a word", m, 22, 1, 24, 1, 27, 1)
	fills(t, m, 29, []byte{5, 0, 5}, api.OK)
	changed(t, "filled", m, 22, 1, 24, 1, 27, 1, 29, 1, 31, 1)
	stored(t, m, 20, 4, 0, api.OK)
	changed(t, "as it was again", m, 24, 1, 27, 1, 29, 1, 31, 1)
	fills(t, m, 24, slices.Repeat([]byte{6}, 6), api.OK)
	changed(t, "joined", m, 24, 6, 31, 1)
	m.Mark()
	changed(t, "marked", m)
	stored(t, m, 24, 4, 0x06060606, api.OK)
	changed(t, "as it was at the mark", m)
	stored(t, m, 24, 4, 0, api.OK)
	changed(t, "noughts again", m, 24, 4)
	m.Mark()
	m.Mark()
	changed(t, "marked twice", m)
	fills(t, m, 24, []byte{6, 6, 6, 6}, api.OK)
	changed(t, "as it was at another mark", m, 24, 4)
}

// 3.4: a range of changed bytes at any place, of any size, about where a range may be cut inside, and at its edges.
func TestChangedAtAnyPlace(t *testing.T) {
	m := made(t, of("a", 16, 3*4096, "w"))
	for _, edge := range []int{16, 80, 144, 256, 272, 528, 1040, 2064, 4096, 4112, 8192, 8208, 16 + 3*4096} {
		for from := max(edge-3, 16); from <= edge+1; from++ {
			for _, size := range []int{1, 2, 3, 4, 5, 64, 65, 4096, 4097, 8192} {
				if from+size > 16+3*4096 {
					continue
				}
				fills(t, m, uint32(from), slices.Repeat([]byte{1}, size), api.OK)
				changed(t, all(from, size), m, from, size)
				m.Mark()
				fills(t, m, uint32(from), make([]byte, size), api.OK)
				changed(t, all("back", from, size), m, from, size)
				m.Mark()
			}
		}
	}
}

// 3.4: ranges of addresses rise, in whatever order the ranges were handed in and written, and go on from one into the next one.
func TestChangedOverRanges(t *testing.T) {
	m := made(t, layout()...)
	for _, at := range []uint32{1<<32 - 4, 16384, 8192, 8188, 4096, 48, 44, 16, 1<<32 - 48, 16396, 16400, 60} {
		fills(t, m, at, []byte{1, 2, 3, 4}, api.OK)
	}
	changed(t, "over ranges", m, 16, 4, 44, 8, 60, 4, 4096, 4, 8188, 8, 16384, 4, 16396, 8, 1<<32-48, 4, 1<<32-4, 4)
	for _, r := range layout() {
		fills(t, m, uint32(r.From), slices.Repeat([]byte{9}, r.Size), api.OK)
	}
	changed(t, "all", m, 16, 48, 4096, 12320, 1<<32-48, 48)
	m.Mark()
	changed(t, "marked", m)
}

// 3.4: what changed as badly scattered as can be.
func TestChangedScattered(t *testing.T) {
	m := made(t, of("a", 16, 1<<16, "w"))
	var want []int
	for at := 17; at < 16+1<<16; at += 2 {
		stored(t, m, uint32(at), 1, 1, api.OK)
		want = append(want, at, 1)
	}
	changed(t, "each other byte", m, want...)
}

// twins is a memory in which some is marked, and some changed since, and a clone of it.
func twins(t *testing.T) (*mem.Mem, *mem.Mem) {
	t.Helper()
	m := made(t, layout()...)
	fills(t, m, 8192, rising(1, 8), api.OK)
	fills(t, m, 16, rising(1, 8), api.OK)
	m.Mark()
	fills(t, m, 8196, []byte{0, 0}, api.OK)
	fills(t, m, 4096, []byte{7}, api.OK)
	return m, m.Clone()
}

// 3.4: a clone stands where what it was made of does, its mark too.
func TestCloneStandsThere(t *testing.T) {
	m, c := twins(t)
	same(t, "ranges", c.Ranges(), layout())
	same(t, "bytes", bytesOf(t, c), bytesOf(t, m))
	changed(t, "the clone", c, 4096, 1, 8196, 2)
	fills(t, c, 8196, []byte{5, 6}, api.OK)
	changed(t, "as it was at the mark", c, 4096, 1)
	stored(t, c, 48, 4, 1, api.ErrWrite)
	name, from, e := c.Of(8207)
	same(t, "Of", all(name, from, e), all("stack", 15, api.OK))
	same(t, "a clone of nothing", made(t).Clone().Ranges(), []api.Range{})
}

// 3.4: a clone and what it was made of go on apart: what is written or marked in one is not seen in the other, whichever it is.
func TestCloneGoesOnApart(t *testing.T) {
	for _, at := range []uint32{16, 4096, 4100, 8192, 8196, 12288, 16384, 1<<32 - 4} {
		for way := range 4 {
			one, other := twins(t)
			if way&1 == 1 {
				one, other = other, one
			}
			unchanged(t, all("the other one ", at, way), other, func() {
				if way&2 == 2 {
					one.Mark()
				}
				fills(t, one, at, []byte{0xaa, 0xbb, 0xcc, 0xdd}, api.OK)
				one.Mark()
				changed(t, "marked", one)
				fills(t, one, at, []byte{0xab, 0xbc, 0xcd, 0xde}, api.OK)
			})
			changed(t, "the one", one, int(at), 4)
			changed(t, "the other one", other, 4096, 1, 8196, 2)
			reads(t, one, at, 4, []byte{0xab, 0xbc, 0xcd, 0xde}, api.OK)
		}
	}
}

// 3.4: clones of clones.
func TestClonesOfClones(t *testing.T) {
	l := []*mem.Mem{made(t, of("a", 16, 4096, "w"))}
	for i := range 8 {
		last := l[len(l)-1]
		stored(t, last, uint32(16+4*i), 4, 0x01010101, api.OK)
		c := last.Clone()
		if i%2 == 1 {
			c.Mark()
		}
		l = append(l, c)
	}
	for i, m := range l {
		made := min(i+1, 8) * 4
		b, _ := m.Read(16, 64)
		same(t, all("clone ", i), b, append(bytes.Repeat([]byte{1}, made), make([]byte, 64-made)...))
		marked := i / 2 * 8
		if made == marked {
			changed(t, all("clone ", i), m)
		} else {
			changed(t, all("clone ", i), m, 16+marked, made-marked)
		}
	}
}
