package emu_test

import (
	"math"
	"slices"
	"strconv"
	"strings"
	"testing"

	"catapult/api"
	"catapult/emu"
)

// checked fails where an image is not told as it must be: by Check, by New, by Play.
func checked(t *testing.T, what string, want api.Errno, x api.Image) {
	t.Helper()
	same(t, "Check: "+what, emu.Check(x), want)
	m, e := emu.New(x, nil)
	same(t, "New: "+what, all(m != nil, e), all(want == api.OK, want))
	r, e := emu.Play(x, nil, 0)
	same(t, "Play: "+what, all(r, e), all(api.Run{}, want))
	if m != nil {
		same(t, "Ranges: "+what, m.Ranges(), x.Ranges)
		same(t, "Changed: "+what, m.Changed(), []api.Gap{})
		same(t, "at first: "+what, standing(t, m), plainOf(x, "").standing())
	}
}

// some is n ranges of so many bytes, one behind the other.
func some(n, size int) []api.Range {
	var l []api.Range
	for i := range n {
		l = append(l, of("r"+strconv.Itoa(i), 16+size*i, size, "wx"))
	}
	return l
}

// 4.1: the ranges of an image are those that a memory may have.
func TestRangesOfImages(t *testing.T) {
	checked(t, "none", api.OK, api.Image{})
	checked(t, "the layout of these tests", api.OK, api.Image{Ranges: layout()})
	checked(t, "16", api.OK, api.Image{Ranges: some(16, 16)})
	checked(t, "17", api.ErrImage, api.Image{Ranges: some(17, 16)})
	for what, l := range map[string][]api.Range{
		"an empty range":        {of("a", 16, 0, "x")},
		"an empty one at last":  {of("a", words, 0, "x")},
		"the last bytes":        {of("a", words-16, 16, "x")},
		"two that touch":        {of("a", 16, 16, ""), of("b", 32, 16, "")},
		"one inside, but empty": {of("a", 16, 64, ""), of("b", 32, 0, "")},
	} {
		checked(t, what, api.OK, api.Image{Ranges: l})
	}
	for what, l := range map[string][]api.Range{
		"nothing":       {{}},
		"no name":       {of("", 16, 16, "x")},
		"a wrong name":  {of("A", 16, 16, "x")},
		"a long name":   {of(strings.Repeat("a", 32), 16, 16, "x")},
		"from 0":        {of("a", 0, 16, "x")},
		"from below 0":  {of("a", -16, 32, "x")},
		"from 17":       {of("a", 17, 16, "x")},
		"a size of 8":   {of("a", 16, 8, "x")},
		"a size of -16": {of("a", 16, -16, "x")},
		"over the end":  {of("a", words-16, 32, "x")},
		"very far":      {of("a", math.MaxInt-15, 16, "x")},
		"a name twice":  {of("a", 16, 16, ""), of("a", 64, 16, "")},
		"not apart":     {of("a", 16, 32, ""), of("b", 32, 16, "")},
		"too great":     {of("a", 16, 1<<24+16, "")},
	} {
		checked(t, what, api.ErrImage, api.Image{Ranges: l})
	}
}

// 4.1: how many bytes all ranges may have.
func TestSizesOfRanges(t *testing.T) {
	const most = 1 << 20
	same(t, "MaxMemory", emu.MaxMemory, most)
	for want, l := range map[api.Errno][][]api.Range{
		api.OK: {
			{of("a", 16, most, "")}, {of("a", 16, most, ""), of("b", 0x80000000, 0, "")}, {of("a", 16, most-16, ""), of("b", 0x80000000, 16, "")}, some(16, most/16),
		},
		api.ErrImage: {
			{of("a", 16, most+16, "")}, {of("a", 16, most, ""), of("b", 0x80000000, 16, "")}, {of("b", 0x80000000, 16, ""), of("a", 16, most, "")},
			{of("a", 16, most-16, ""), of("b", 0x80000000, 32, "")}, some(16, most/16+16), {of("a", 16, 1<<24, "")}, some(16, 1<<24),
		},
	} {
		for _, r := range l {
			checked(t, all(r), want, api.Image{Ranges: r})
		}
	}
}

// 4.1: the entry is an address, of whatever kind.
func TestEntries(t *testing.T) {
	for _, at := range []int{0, 1, 2, 15, 16, 18, text, data, rom, 600, 1 << 31, words - 4, words - 1} {
		checked(t, "entry "+all(at), api.OK, api.Image{Ranges: layout(), Entry: at})
		checked(t, "without ranges, entry "+all(at), api.OK, api.Image{Entry: at})
	}
	for _, at := range []int{-1, -4, -words, math.MinInt, words, words + 16, words + text, math.MaxInt} {
		checked(t, "entry "+all(at), api.ErrImage, api.Image{Ranges: layout(), Entry: at})
	}
}

// 4.1: the bytes of a fill lie in one range, whatever it may; one without bytes has none elsewhere.
func TestFills(t *testing.T) {
	for _, x := range []struct {
		at, n int
		want  api.Errno
	}{
		{text, 1, api.OK}, {text, 1024, api.OK}, {text + 1023, 1, api.OK}, {text + 1, 3, api.OK}, {data, 512, api.OK}, {rom, 64, api.OK}, {rom + 63, 1, api.OK}, {both + 5, 4000, api.OK},
		{top, 64, api.OK}, {words - 1, 1, api.OK}, {words - 2, 2, api.OK}, {16, 16, api.OK},
		{text - 1, 1, api.ErrImage}, {text - 1, 2, api.ErrImage}, {text, 1025, api.ErrImage}, {text + 1023, 2, api.ErrImage}, {text + 1024, 1, api.ErrImage},
		{data, 513, api.ErrImage}, {rom - 1, 2, api.ErrImage}, {data, 576, api.ErrImage}, {512, 1, api.ErrImage}, {0, 1, api.ErrImage}, {0, 17, api.ErrImage}, {15, 1, api.ErrImage}, {15, 2, api.ErrImage},
		{words - 1, 2, api.ErrImage}, {top, 65, api.ErrImage}, {words, 1, api.ErrImage}, {words + 16, 1, api.ErrImage}, {words + text, 4, api.ErrImage},
		{-1, 1, api.ErrImage}, {-words + text, 4, api.ErrImage}, {text - words, 1, api.ErrImage}, {math.MinInt, 1, api.ErrImage}, {math.MaxInt, 1, api.ErrImage}, {math.MaxInt - 3, 8, api.ErrImage},
		{text, 1 << 20, api.ErrImage}, {text, 1<<24 + 1, api.ErrImage},
		{text, 0, api.OK}, {0, 0, api.OK}, {600, 0, api.OK}, {512, 0, api.OK}, {words - 1, 0, api.OK}, {words, 0, api.OK}, {-1, 0, api.OK}, {math.MinInt, 0, api.OK}, {math.MaxInt, 0, api.OK},
	} {
		f := api.Fill{At: x.at, Bytes: slices.Repeat([]byte{7}, x.n)}
		checked(t, all("a fill ", x.at, x.n), x.want, api.Image{Ranges: layout(), Fills: []api.Fill{f}})
		checked(t, all("the second fill ", x.at, x.n), x.want, api.Image{Ranges: layout(), Fills: []api.Fill{{At: data, Bytes: []byte{1}}, f}})
	}
}

// 4.1: how many fills there may be.
func TestHowManyFills(t *testing.T) {
	for n, want := range map[int]api.Errno{0: api.OK, 1: api.OK, 15: api.OK, 16: api.OK, 17: api.ErrImage, 5000: api.ErrImage} {
		checked(t, all(n, " fills"), want, api.Image{Ranges: layout(), Fills: slices.Repeat([]api.Fill{{At: data, Bytes: []byte{1, 2}}}, n)})
		checked(t, all(n, " fills without bytes"), want, api.Image{Ranges: layout(), Fills: make([]api.Fill, n)})
	}
}

// 4.1: the last one of 16 fills is looked at too.
func TestEachFillIsLookedAt(t *testing.T) {
	for i := range 16 {
		l := slices.Repeat([]api.Fill{{At: data, Bytes: []byte{1, 2}}}, 16)
		l[i].At = rom - 1
		checked(t, all("a wrong fill at ", i), api.ErrImage, api.Image{Ranges: layout(), Fills: l})
	}
}

// The words: the fills stand in the memory in their order, a later one over an earlier one; and the mark is behind them.
func TestFillsInTheirOrder(t *testing.T) {
	x := api.Image{Ranges: layout(), Fills: []api.Fill{
		{At: data, Bytes: []byte{1, 2, 3, 4, 5, 6}}, {At: data + 2, Bytes: []byte{9, 9}}, {At: data + 3, Bytes: []byte{8}}, {At: rom + 63, Bytes: []byte{0xfe}}, {At: top, Bytes: nil},
	}}
	checked(t, "fills over fills", api.OK, x)
	m := made(t, x, "")
	b, e := m.Peek(data, 8)
	same(t, "the fills", all(b, e), all([]byte{1, 2, 9, 8, 5, 6, 0, 0}, api.OK))
	same(t, "all of the memory", bytesOf(t, m), plainOf(x, "").all())
	same(t, "Poke", m.Poke(data+3, []byte{4}), api.OK)
	same(t, "Changed", m.Changed(), []api.Gap{{From: data + 3, Size: 1}})
}

// 4.1: how long an input may be; what is wrong with the image comes first.
func TestLongInputs(t *testing.T) {
	x := imageOf(t, "sys 1", "jump -2")
	wrong := api.Image{Entry: -1}
	for n, want := range map[int]api.Errno{0: api.OK, 1: api.OK, api.MaxText - 1: api.OK, api.MaxText: api.OK, api.MaxText + 1: api.ErrLong, 1 << 20: api.ErrLong} {
		input := make([]byte, n)
		m, e := emu.New(x, input)
		same(t, all("New, an input of ", n), all(m != nil, e), all(want == api.OK, want))
		r, e := emu.Play(x, input, 5)
		same(t, all("Play, an input of ", n), all(r, e), all(api.Run{}, want))
		m, e = emu.New(wrong, input)
		same(t, all("New of a wrong image, an input of ", n), all(m != nil, e), all(false, api.ErrImage))
		r, e = emu.Play(wrong, input, -1)
		same(t, all("Play of a wrong image, an input of ", n), all(r, e), all(api.Run{}, api.ErrImage))
	}
}
