package mem_test

import (
	"math"
	"slices"
	"strconv"
	"strings"
	"testing"

	"catapult/api"
	"catapult/mem"
)

// some is n ranges of 16 bytes, one behind the other.
func some(n int) []api.Range {
	var l []api.Range
	for i := range n {
		l = append(l, of("r"+strconv.Itoa(i), 16+16*i, 16, "w"))
	}
	return l
}

// checked fails where ranges are not told as they must be: by Check, by New.
func checked(t *testing.T, what string, want api.Errno, l ...api.Range) {
	t.Helper()
	was := slices.Clone(l)
	same(t, "Check: "+what, mem.Check(l), want)
	m, e := mem.New(l)
	same(t, "New: "+what, all(m != nil, e), all(want == api.OK, want))
	if m != nil {
		same(t, "Ranges: "+what, m.Ranges(), l)
		same(t, "Changed: "+what, m.Changed(), []api.Gap{})
	}
	same(t, "what was handed in: "+what, l, was)
}

// 3.1: how many there may be.
func TestHowManyRanges(t *testing.T) {
	checked(t, "none", api.OK)
	checked(t, "one", api.OK, some(1)...)
	checked(t, "16", api.OK, some(16)...)
	checked(t, "17", api.ErrLong, some(17)...)
	checked(t, "very many", api.ErrLong, some(5000)...)
}

// 3.1: 17 ranges are too many, whatever else is wrong with them; 16 are not.
func TestTooManyComesFirst(t *testing.T) {
	for i := range 17 {
		l := some(17)
		l[i] = api.Range{}
		checked(t, "17, one of them wrong", api.ErrLong, l...)
	}
	checked(t, "17 of one name", api.ErrLong, slices.Repeat(some(1), 17)...)
	checked(t, "17 that are nothing", api.ErrLong, make([]api.Range, 17)...)
	for i := range 16 {
		l := some(16)
		l[i].Size++
		checked(t, "16, one of them wrong", api.ErrShape, l...)
	}
}

// 3.1: names.
func TestNames(t *testing.T) {
	long := "a" + strings.Repeat("z", api.MaxName-1)
	right := []string{"a", "z", "m", "text", "r0", "a9", "a_", "a__9z", "rt_0", long, "q" + strings.Repeat("_", 30), "k" + strings.Repeat("0", 30)}
	for _, s := range right {
		checked(t, "the name "+s, api.OK, of(s, 16, 16, "w"))
	}
	wrong := []string{
		"", " ", "A", "Z", "aB", "0", "9a", "_", "_a", "a b", "a ", " a", "a.", ".end", "a.end", "a-b", "a/", "a:", "a`", "a{", "a@", "a[", "a^", "`", "{", "/", ":",
		"a\x00", "\x00", "a\n", "\xff", "a\x80", "ä", "aä", "aя", "a٣", "ａ", long + "z", long + "_", strings.Repeat("a", 255), strings.Repeat("a", 1<<17),
	}
	for _, s := range wrong {
		checked(t, "the name "+strconv.Quote(s)[:min(20, len(s)+2)], api.ErrShape, of(s, 16, 16, "w"))
	}
}

// 3.1: each byte, as a name's first one and as another one.
func TestBytesOfNames(t *testing.T) {
	for c := range 256 {
		b := string([]byte{byte(c)})
		first, other := api.ErrShape, api.ErrShape
		if strings.Contains("abcdefghijklmnopqrstuvwxyz", b) {
			first = api.OK
		}
		if strings.Contains("abcdefghijklmnopqrstuvwxyz0123456789_", b) {
			other = api.OK
		}
		checked(t, "first byte "+strconv.Itoa(c), first, of(b+"a", 16, 16, ""))
		checked(t, "inner byte "+strconv.Itoa(c), other, of("a"+b+"a", 16, 16, ""))
		checked(t, "last byte "+strconv.Itoa(c), other, of("a"+b, 16, 16, ""))
	}
}

// 3.1: each name once, wherever it stands, of empty ranges too.
func TestNamesOnce(t *testing.T) {
	for i := range 16 {
		for k := range i {
			l := some(16)
			l[i].Name = l[k].Name
			checked(t, "a name twice", api.ErrShape, l...)
		}
	}
	checked(t, "a name twice, empty", api.ErrShape, of("a", 16, 0, ""), of("a", 32, 0, ""))
	checked(t, "a name twice, far apart", api.ErrShape, of("a", 16, 16, ""), of("b", 32, 16, ""), of("a", 1<<31, 16, ""))
	checked(t, "names that begin alike", api.OK, of("a", 16, 16, ""), of("aa", 32, 16, ""), of("a_", 48, 16, ""))
}

// 3.1: From and Size, at their edges and one step beyond.
func TestFromAndSize(t *testing.T) {
	right := [][2]int{
		{16, 0}, {16, 16}, {16, 1 << 24}, {32, 48}, {4096, 1<<24 - 16}, {1 << 32, 0}, {1<<32 - 16, 0}, {1<<32 - 16, 16},
		{1<<32 - 1<<24, 1 << 24}, {1<<32 - 1<<24 + 16, 1<<24 - 16}, {1 << 31, 16}, {1<<31 - 16, 32},
	}
	for _, x := range right {
		checked(t, all(x), api.OK, of("a", x[0], x[1], "wx"))
	}
	wrong := [][2]int{
		{0, 0}, {0, 16}, {15, 16}, {17, 16}, {8, 16}, {24, 16}, {20, 16}, {1, 0}, {-16, 16}, {-16, 32}, {-1 << 32, 16}, {16, -16}, {16, -1}, {16, -1 << 24},
		{16, 1}, {16, 8}, {16, 15}, {16, 17}, {16, 24}, {16, 1<<24 + 16}, {16, 1<<24 + 1}, {16, 1<<24 - 1}, {16, 1 << 32}, {16, 1<<32 + 16},
		{1 << 32, 16}, {1<<32 + 16, 0}, {1<<32 + 16, 16}, {1<<32 + 1, 0}, {1<<32 - 1, 0}, {1<<32 - 16, 32}, {1<<32 - 1<<24 + 16, 1 << 24}, {1<<33 + 16, 16},
		{math.MaxInt, 0}, {math.MaxInt - 15, 16}, {16, math.MaxInt}, {16, math.MaxInt - 15}, {math.MinInt, 16}, {16, math.MinInt}, {math.MaxInt - 15, math.MaxInt - 15}, {math.MinInt, math.MinInt},
	}
	for _, x := range wrong {
		checked(t, all(x), api.ErrShape, of("a", x[0], x[1], "wx"))
		checked(t, all(x, "behind a right one"), api.ErrShape, of("b", 4096, 16, ""), of("a", x[0], x[1], ""))
		checked(t, all(x, "ahead of a right one"), api.ErrShape, of("a", x[0], x[1], ""), of("b", 4096, 16, ""))
	}
}

// 3.1: ranges that touch are right, ranges with an address in common are not, in whatever order; what is empty has none.
func TestRangesApart(t *testing.T) {
	a := of("a", 64, 64, "w")
	for _, x := range [][3]int{
		{16, 48, 1}, {16, 64, 0}, {48, 16, 1}, {48, 32, 0}, {48, 128, 0}, {32, 96, 0}, {64, 16, 0}, {64, 64, 0}, {64, 96, 0}, {80, 16, 0}, {80, 48, 0}, {80, 64, 0},
		{112, 16, 0}, {112, 32, 0}, {128, 16, 1}, {144, 16, 1}, {16, 16, 1}, {16, 256, 0}, {48, 80, 0},
		{16, 0, 1}, {48, 0, 1}, {64, 0, 1}, {80, 0, 1}, {112, 0, 1}, {128, 0, 1}, {144, 0, 1},
	} {
		want := api.ErrShape
		if x[2] == 1 {
			want = api.OK
		}
		b := of("b", x[0], x[1], "x")
		checked(t, all("beside 64 to 128: ", x), want, a, b)
		checked(t, all("ahead of 64 to 128: ", x), want, b, a)
		checked(t, all("with one between: ", x), want, a, of("c", 1024, 16, ""), b)
	}
	checked(t, "empty ones at one address", api.OK, of("a", 16, 0, ""), of("b", 16, 0, ""), of("c", 16, 16, ""))
	checked(t, "empty ones at the end", api.OK, of("a", 1<<32, 0, ""), of("b", 1<<32, 0, ""), of("c", 1<<32-16, 16, ""))
	checked(t, "the layout of these tests", api.OK, layout()...)
	falling := layout()
	slices.Reverse(falling)
	checked(t, "in another order", api.OK, falling...)
}

// 3.1: the greatest memory that there can be is noughts at first, and holds what is put in at its edges.
func TestGreatestMemory(t *testing.T) {
	var l []api.Range
	for i := range 16 {
		l = append(l, of("r"+strconv.Itoa(i), 1<<32-(i+1)<<24, 1<<24, "w"))
	}
	checked(t, "16 of the greatest", api.OK, l...)
	m := made(t, l...)
	var want []api.Gap
	for i := 15; i >= 0; i-- {
		from := uint32(l[i].From)
		same(t, "Store at the beginning", m.Store(from, 1, uint32(i)+1), api.OK)
		same(t, "Store ahead of the end", m.Store(from+(1<<24-4), 4, 0x01010101), api.OK)
		if i == 15 {
			want = append(want, api.Gap{From: int(from), Size: 1})
		}
		size := 5
		if i == 0 {
			size = 4
		}
		want = append(want, api.Gap{From: int(from) + 1<<24 - 4, Size: size})
	}
	same(t, "Changed", m.Changed(), want)
	w, e := m.Load(1<<32-1<<24, 4)
	same(t, "Load", all(w, e), all(1, api.OK))
}
