package mem_test

import (
	"bytes"
	"math"
	"slices"
	"testing"

	"catapult/api"
	"catapult/mem"
)

// reads fails where a Read answers otherwise.
func reads(t *testing.T, m *mem.Mem, at uint32, n int, want []byte, wantE api.Errno) {
	t.Helper()
	b, e := m.Read(at, n)
	if !bytes.Equal(b, want) || e != wantE {
		t.Errorf("Read(%#x, %d): %d bytes %.40x, %v, want %d bytes %.40x, %v", at, n, len(b), b, e, len(want), want, wantE)
	}
}

// fills fails where a Fill answers otherwise, or is refused and changes something.
func fills(t *testing.T, m *mem.Mem, at uint32, b []byte, want api.Errno) {
	t.Helper()
	fill := func() {
		if e := m.Fill(at, b); e != want {
			t.Errorf("Fill(%#x, %d bytes): %v, want %v", at, len(b), e, want)
		}
	}
	if want == api.OK && len(b) > 0 {
		fill()
	} else {
		unchanged(t, all("Fill ", at, len(b)), m, fill)
	}
}

// rising is n bytes, one more each.
func rising(first byte, n int) []byte {
	var l []byte
	for i := range n {
		l = append(l, first+byte(i))
	}
	return l
}

// 3.3: what is filled is there then, aligned or not, whatever the range may; what stands beside it stays.
func TestFillAndRead(t *testing.T) {
	for _, how := range []string{"", "w", "x", "wx"} {
		for from := range 32 {
			for n := 1; from+n <= 32; n++ {
				m := made(t, of("a", 64, 32, how))
				fills(t, m, 64, slices.Repeat([]byte{0xee}, 32), api.OK)
				fills(t, m, 64+uint32(from), rising(1, n), api.OK)
				reads(t, m, 64+uint32(from), n, rising(1, n), api.OK)
				want := slices.Repeat([]byte{0xee}, 32)
				copy(want[from:], rising(1, n))
				reads(t, m, 64, 32, want, api.OK)
			}
		}
	}
}

// 3.3: bytes that go over a range's end, into nothing or into the next range, or that begin in none; an empty range inside another one cuts nothing.
func TestBytesNotInOneRange(t *testing.T) {
	m := made(t, of("inner", 48, 0, "w"), of("a", 16, 16, "w"), of("b", 32, 32, "w"), of("c", 80, 16, ""), of("empty", 64, 0, "w"))
	for _, x := range [][2]int{
		{0, 1}, {0, 17}, {15, 1}, {15, 2}, {0, 100}, {16, 17}, {16, 48}, {31, 2}, {24, 16}, {32, 33}, {63, 2}, {40, 41}, {64, 1}, {64, 17}, {79, 1}, {79, 2}, {80, 17}, {95, 2}, {96, 1},
		{16, 1 << 24}, {1<<32 - 1, 1}, {1<<32 - 1, 2}, {1<<32 - 16, 32}, {1<<32 - 16, 1 << 24}, {1 << 31, 1},
	} {
		reads(t, m, uint32(x[0]), x[1], nil, api.ErrBad)
		fills(t, m, uint32(x[0]), slices.Repeat([]byte{1}, x[1]), api.ErrBad)
	}
	for _, x := range [][2]int{{16, 16}, {16, 1}, {31, 1}, {32, 32}, {40, 24}, {47, 2}, {48, 16}, {63, 1}, {80, 16}, {95, 1}} {
		reads(t, m, uint32(x[0]), x[1], make([]byte, x[1]), api.OK)
		fills(t, m, uint32(x[0]), rising(7, x[1]), api.OK)
		reads(t, m, uint32(x[0]), x[1], rising(7, x[1]), api.OK)
		fills(t, m, uint32(x[0]), make([]byte, x[1]), api.OK)
	}
}

// 3.3: the greatest address: nothing goes round it.
func TestBytesAtTheEnd(t *testing.T) {
	m := made(t, of("top", 1<<32-16, 16, ""), of("low", 16, 16, "w"))
	fills(t, m, 1<<32-16, rising(1, 16), api.OK)
	reads(t, m, 1<<32-16, 16, rising(1, 16), api.OK)
	reads(t, m, 1<<32-1, 1, []byte{16}, api.OK)
	for n := 2; n < 40; n++ {
		reads(t, m, 1<<32-1, n, nil, api.ErrBad)
		fills(t, m, 1<<32-1, make([]byte, n), api.ErrBad)
	}
	reads(t, m, 1<<32-16, 17, nil, api.ErrBad)
	fills(t, m, 1<<32-16, make([]byte, 17), api.ErrBad)
}

// 3.3: 0 bytes go at any address, and change nothing.
func TestNoBytes(t *testing.T) {
	for _, m := range []*mem.Mem{made(t), made(t, of("a", 16, 16, "w"), of("e", 64, 0, ""))} {
		for _, at := range []uint32{0, 1, 15, 16, 17, 31, 32, 33, 64, 1 << 31, 1<<32 - 1} {
			reads(t, m, at, 0, nil, api.OK)
			fills(t, m, at, nil, api.OK)
			fills(t, m, at, []byte{}, api.OK)
		}
	}
}

// 3.3: lengths below 0, ahead of all else.
func TestLengthsBelowNought(t *testing.T) {
	m := made(t, of("a", 16, 16, "w"))
	for _, n := range []int{-1, -2, -16, -1 << 24, -1<<24 - 1, -1 << 32, math.MinInt} {
		for _, at := range []uint32{0, 16, 31, 32, 1<<32 - 1} {
			reads(t, m, at, n, nil, api.ErrRange)
		}
	}
}

// 3.3: 1 << 24 bytes go, one more is too many.
func TestVeryManyBytes(t *testing.T) {
	const most = 1 << 24
	m := made(t, of("a", 16, most, "w"), of("b", 16+most, 16, "w"))
	many := bytes.Repeat(rising(1, 251), most/251+1)
	fills(t, m, 16, many[:most], api.OK)
	reads(t, m, 16, most, many[:most], api.OK)
	reads(t, m, 17, most-1, many[1:most], api.OK)
	same(t, "Changed", m.Changed(), []api.Gap{{From: 16, Size: most}})
	same(t, "Fill of one more", m.Fill(16, many[1:most+2]), api.ErrLong)
	reads(t, m, 16, most+1, nil, api.ErrLong)
	same(t, "Fill from the next place on", m.Fill(17, many[:most]), api.ErrBad)
	reads(t, m, 17, most, nil, api.ErrBad)
	reads(t, m, 16, most, many[:most], api.OK)
	reads(t, m, 16+most, 16, make([]byte, 16), api.OK)
}

// 3.3: too many bytes, ahead of what is in no range.
func TestTooManyBytesComeFirst(t *testing.T) {
	m := made(t, of("a", 16, 16, "w"))
	for _, at := range []uint32{0, 15, 16, 31, 32, 1 << 31, 1<<32 - 1} {
		for _, n := range []int{1<<24 + 1, 1<<24 + 16, 1 << 25, 1 << 32, 1<<32 + 1, math.MaxInt} {
			reads(t, m, at, n, nil, api.ErrLong)
		}
		fills(t, m, at, make([]byte, 1<<24+1), api.ErrLong)
		reads(t, m, at, 1<<24, nil, api.ErrBad)
		fills(t, m, at, make([]byte, 1<<24), api.ErrBad)
	}
}
