package mem_test

import (
	"math"
	"slices"
	"testing"

	"catapult/api"
	"catapult/mem"
)

// loaded fails where a load answers otherwise.
func loaded(t *testing.T, m *mem.Mem, at uint32, n int, want uint32, wantE api.Errno) {
	t.Helper()
	w, e := m.Load(at, n)
	if w != want || e != wantE {
		t.Errorf("Load(%#x, %d): %#x, %v, want %#x, %v", at, n, w, e, want, wantE)
	}
}

// fetched fails where a fetch answers otherwise.
func fetched(t *testing.T, m *mem.Mem, at, want uint32, wantE api.Errno) {
	t.Helper()
	w, e := m.Fetch(at)
	if w != want || e != wantE {
		t.Errorf("Fetch(%#x): %#x, %v, want %#x, %v", at, w, e, want, wantE)
	}
}

// stored fails where a store answers otherwise, or is refused and changes something.
func stored(t *testing.T, m *mem.Mem, at uint32, n int, w uint32, want api.Errno) {
	t.Helper()
	store := func() {
		if e := m.Store(at, n, w); e != want {
			t.Errorf("Store(%#x, %d, %#x): %v, want %v", at, n, w, e, want)
		}
	}
	if want == api.OK {
		store()
	} else {
		unchanged(t, all("Store ", at, n), m, store)
	}
}

// The chapter's example.
func TestExampleOfTheChapter(t *testing.T) {
	m := made(t, of("a", 16, 32, "w"))
	stored(t, m, 20, 4, 0x01020304, api.OK)
	loaded(t, m, 21, 1, 3, api.OK)
	loaded(t, m, 22, 2, 0x0102, api.OK)
	loaded(t, m, 18, 4, 0, api.ErrAlign)
	loaded(t, m, 48, 1, 0, api.ErrBad)
	fetched(t, m, 16, 0, api.ErrExec)
	same(t, "Changed", m.Changed(), []api.Gap{{From: 20, Size: 4}})
}

// 3.2: what is loaded is the bytes, the lowest first, above them noughts: no sign.
func TestLoad(t *testing.T) {
	m := made(t, of("a", 16, 32, "x"))
	same(t, "Fill", m.Fill(16, []byte{0xf8, 0xe7, 0xd6, 0xc5, 0x01, 0x00, 0x80, 0xff}), api.OK)
	for i, want := range []uint32{0xf8, 0xe7, 0xd6, 0xc5, 0x01, 0x00, 0x80, 0xff, 0} {
		loaded(t, m, 16+uint32(i), 1, want, api.OK)
	}
	for i, want := range []uint32{0xe7f8, 0xc5d6, 0x0001, 0xff80, 0} {
		loaded(t, m, 16+2*uint32(i), 2, want, api.OK)
	}
	for i, want := range []uint32{0xc5d6e7f8, 0xff800001, 0} {
		loaded(t, m, 16+4*uint32(i), 4, want, api.OK)
		fetched(t, m, 16+4*uint32(i), want, api.OK)
	}
}

// 3.2: what is stored is the word's lowest bytes; what stands beside them stays.
func TestStore(t *testing.T) {
	for _, x := range []struct {
		at   uint32
		n    int
		want []byte
	}{
		{20, 1, []byte{9, 9, 9, 9, 0x44, 9, 9, 9, 9}},
		{21, 1, []byte{9, 9, 9, 9, 9, 0x44, 9, 9, 9}},
		{23, 1, []byte{9, 9, 9, 9, 9, 9, 9, 0x44, 9}},
		{20, 2, []byte{9, 9, 9, 9, 0x44, 0x33, 9, 9, 9}},
		{22, 2, []byte{9, 9, 9, 9, 9, 9, 0x44, 0x33, 9}},
		{20, 4, []byte{9, 9, 9, 9, 0x44, 0x33, 0x22, 0x11, 9}},
		{16, 4, []byte{0x44, 0x33, 0x22, 0x11, 9, 9, 9, 9, 9}},
	} {
		m := made(t, of("a", 16, 32, "w"))
		same(t, "Fill", m.Fill(16, slices.Repeat([]byte{9}, 32)), api.OK)
		stored(t, m, x.at, x.n, 0x11223344, api.OK)
		b, e := m.Read(16, 9)
		same(t, all("Store ", x.at, x.n), all(b, e), all(x.want, api.OK))
	}
}

// 3.2: what each kind of range may.
func TestWaysOfRanges(t *testing.T) {
	m := made(t, of("none", 16, 16, ""), of("write", 32, 16, "w"), of("run", 48, 16, "x"), of("both", 64, 16, "wx"))
	for at, x := range map[uint32]struct{ write, run api.Errno }{
		16: {api.ErrWrite, api.ErrExec}, 32: {api.OK, api.ErrExec}, 48: {api.ErrWrite, api.OK}, 64: {api.OK, api.OK},
	} {
		same(t, "Fill", m.Fill(at, []byte{1, 2, 3, 4}), api.OK)
		loaded(t, m, at, 4, 0x04030201, api.OK)
		if x.run == api.OK {
			fetched(t, m, at, 0x04030201, api.OK)
		} else {
			fetched(t, m, at, 0, x.run)
		}
		for _, n := range []int{1, 2, 4} {
			stored(t, m, at+4, n, 7, x.write)
		}
	}
}

// sizes is n that no access has.
func sizes() []int {
	return []int{0, 3, 5, 6, 7, 8, 16, -1, -2, -4, 1 << 8, 1 << 16, 1 << 24, 1 << 32, 1<<32 + 1, 1<<32 + 4, math.MinInt, math.MaxInt}
}

// 3.2: sizes that are none, ahead of all else that is wrong.
func TestWrongSizes(t *testing.T) {
	m := made(t, of("a", 16, 32, "w"), of("rom", 48, 16, ""))
	for _, n := range sizes() {
		for _, at := range []uint32{16, 17, 18, 20, 47, 48, 49, 63, 64, 65, 0, 15, 1<<32 - 1} {
			loaded(t, m, at, n, 0, api.ErrRange)
			stored(t, m, at, n, 1, api.ErrRange)
		}
	}
}

// 3.2: addresses that are not aligned, ahead of those in no range, and of what a range may not.
func TestAligned(t *testing.T) {
	m := made(t, of("rom", 16, 16, ""), of("a", 32, 16, "w"), of("code", 64, 16, "x"))
	for at := range uint32(100) {
		for _, n := range []int{2, 4} {
			if at%uint32(n) != 0 {
				loaded(t, m, at, n, 0, api.ErrAlign)
				stored(t, m, at, n, 1, api.ErrAlign)
			}
		}
		if at%4 != 0 {
			fetched(t, m, at, 0, api.ErrAlign)
		}
	}
	for _, at := range []uint32{1<<32 - 1, 1<<32 - 2, 1<<32 - 3, 1<<31 + 1} {
		loaded(t, m, at, 4, 0, api.ErrAlign)
		stored(t, m, at, 4, 1, api.ErrAlign)
		fetched(t, m, at, 0, api.ErrAlign)
	}
}

// 3.2: addresses in no range, ahead of what no range may.
func TestInNoRange(t *testing.T) {
	m := made(t, of("rom", 32, 16, ""), of("empty", 64, 0, "wx"), of("far", 1<<31, 16, "wx"))
	for _, at := range []uint32{0, 4, 16, 28, 48, 52, 60, 64, 68, 1<<31 - 4, 1<<31 + 16, 1<<32 - 4} {
		for _, n := range []int{1, 2, 4} {
			loaded(t, m, at, n, 0, api.ErrBad)
			stored(t, m, at, n, 1, api.ErrBad)
		}
		fetched(t, m, at, 0, api.ErrBad)
	}
	for _, at := range []uint32{0, 15, 31, 48, 1<<31 - 1, 1<<31 + 16, 1<<32 - 1} {
		loaded(t, m, at, 1, 0, api.ErrBad)
		stored(t, m, at, 1, 1, api.ErrBad)
	}
	none := made(t)
	loaded(t, none, 16, 4, 0, api.ErrBad)
	loaded(t, none, 0, 1, 0, api.ErrBad)
	fetched(t, none, 16, 0, api.ErrBad)
	stored(t, none, 16, 4, 1, api.ErrBad)
}

// 3.2: accesses that end where a range ends, and that go over its end, into nothing and into the next range.
func TestEndsOfRanges(t *testing.T) {
	m := made(t, of("b", 48, 16, "wx"), of("a", 16, 32, "wx"), of("c", 96, 16, "wx"))
	for _, end := range []uint32{48, 64, 112} {
		for _, n := range []int{1, 2, 4} {
			stored(t, m, end-uint32(n), n, 0x01010101, api.OK)
			loaded(t, m, end-uint32(n), n, 0x01010101>>(32-8*n), api.OK)
		}
		fetched(t, m, end-4, 0x01010101, api.OK)
		for _, at := range []uint32{end - 3, end - 2, end - 1} {
			loaded(t, m, at, 4, 0, api.ErrAlign)
			fetched(t, m, at, 0, api.ErrAlign)
			stored(t, m, at, 4, 1, api.ErrAlign)
		}
		loaded(t, m, end-1, 2, 0, api.ErrAlign)
		stored(t, m, end-1, 2, 1, api.ErrAlign)
	}
	loaded(t, m, 48, 4, 0, api.OK)
	loaded(t, m, 64, 1, 0, api.ErrBad)
	loaded(t, m, 92, 4, 0, api.ErrBad)
	loaded(t, m, 112, 4, 0, api.ErrBad)
}

// 3.2: the greatest address.
func TestGreatestAddress(t *testing.T) {
	m := made(t, of("top", 1<<32-16, 16, "wx"), of("low", 16, 16, "wx"))
	stored(t, m, 1<<32-4, 4, 0x81828384, api.OK)
	stored(t, m, 1<<32-1, 1, 0x77, api.OK)
	loaded(t, m, 1<<32-1, 1, 0x77, api.OK)
	loaded(t, m, 1<<32-2, 2, 0x7782, api.OK)
	loaded(t, m, 1<<32-4, 4, 0x77828384, api.OK)
	fetched(t, m, 1<<32-4, 0x77828384, api.OK)
	loaded(t, m, 1<<32-1, 2, 0, api.ErrAlign)
	loaded(t, m, 1<<32-2, 4, 0, api.ErrAlign)
	loaded(t, m, 0, 1, 0, api.ErrBad)
	bare := made(t, of("low", 16, 16, "wx"), of("empty", 1<<32, 0, "wx"))
	loaded(t, bare, 1<<32-1, 1, 0, api.ErrBad)
	loaded(t, bare, 1<<32-4, 4, 0, api.ErrBad)
	stored(t, bare, 1<<32-4, 4, 1, api.ErrBad)
	fetched(t, bare, 1<<32-4, 0, api.ErrBad)
}

// 3.2: a range as great as can be, at its edges and where it may be cut inside.
func TestAccessInAGreatRange(t *testing.T) {
	m := made(t, of("great", 16, 1<<24, "wx"))
	var at []uint32
	for i := uint32(16); i < 1<<24; i *= 2 {
		at = append(at, i-4, i, i+4, i+12, i+16)
	}
	at = append(at, 1<<24, 1<<24+8, 1<<24+12)
	at = slices.DeleteFunc(at, func(a uint32) bool { return a < 16 })
	for _, a := range at {
		stored(t, m, a, 4, a^0xa5a5a5a5, api.OK)
	}
	for _, a := range at {
		fetched(t, m, a, a^0xa5a5a5a5, api.OK)
		loaded(t, m, a+3, 1, (a^0xa5a5a5a5)>>24, api.OK)
	}
	loaded(t, m, 1<<24+16, 1, 0, api.ErrBad)
	loaded(t, m, 15, 1, 0, api.ErrBad)
}
