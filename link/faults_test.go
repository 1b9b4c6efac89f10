package link_test

import (
	"fmt"
	"math"
	"strings"
	"testing"

	"catapult/api"
	"catapult/link"
)

// 6.1, 6.2: what is wrong with objects is what Join tells, ahead of all else.
func TestJoinsFaults(t *testing.T) {
	fine, wrong, long := made(t, "a:", "jump none"), api.Object{Labels: []api.Label{{Name: "r1"}}}, api.Object{Text: make([]byte, 1<<20+1)}
	bad := rooms(api.Range{Name: "A", From: 16, Size: -1})
	for what, x := range map[string]struct {
		o    []api.Object
		want api.Fault
	}{
		"not right":    {[]api.Object{fine, wrong, long}, api.Fault{At: 1, Code: api.ErrShape}},
		"too long":     {[]api.Object{fine, {}, long, wrong}, api.Fault{At: 2, Code: api.ErrLong}},
		"twice":        {[]api.Object{fine, {}, fine}, api.Fault{At: 2, Code: api.ErrLabel}},
		"long in all":  {[]api.Object{{Text: make([]byte, 1<<20)}, {Text: []byte{1}}}, api.Fault{Code: api.ErrLong}},
		"data in all":  {[]api.Object{{Data: make([]byte, 1<<20)}, {Data: []byte{1}}}, api.Fault{Code: api.ErrLong}},
		"first object": {[]api.Object{wrong}, api.Fault{Code: api.ErrShape}},
	} {
		faulty(t, what, x.want, true, "none", bad, x.o...)
		faulty(t, what, x.want, true, "a", nil, x.o...)
	}
}

// 6.1, 6.2: what is wrong with an extra range by itself.
func TestRangesOutOfRange(t *testing.T) {
	o := made(t, "a:", ".data", "b:")
	for what, r := range map[string]api.Range{
		"From 16":             {Name: "x", From: 16},
		"From 4096":           {Name: "x", From: 4096},
		"From 1":              {Name: "x", From: 1},
		"From -1":             {Name: "x", From: -1},
		"From -16":            {Name: "x", From: -16},
		"From far behind":     {Name: "x", From: math.MaxInt},
		"From far ahead":      {Name: "x", From: math.MinInt},
		"Size -1":             {Name: "x", Size: -1},
		"Size -16":            {Name: "x", Size: -16},
		"Size far below":      {Name: "x", Size: math.MinInt},
		"Size above":          {Name: "x", Size: 1<<20 + 1},
		"Size far above":      {Name: "x", Size: math.MaxInt},
		"Size near the most":  {Name: "x", Size: math.MaxInt - 15},
		"no name":             {},
		"a name too long":     {Name: strings.Repeat("x", 32)},
		"a very long name":    {Name: strings.Repeat("x", 1<<20)},
		"a digit first":       {Name: "1x"},
		"a bar first":         {Name: "_x"},
		"a great letter":      {Name: "X"},
		"a great letter last": {Name: "xX"},
		"a dot":               {Name: "x.y"},
		"an end":              {Name: "x.end"},
		"a dollar":            {Name: "x$"},
		"a blank":             {Name: "x "},
		"a blank first":       {Name: " x"},
		"a minus":             {Name: "x-"},
		"a byte of nought":    {Name: "x\x00"},
		"a line feed":         {Name: "x\n"},
		"a letter of two":     {Name: "é"},
		"a byte above":        {Name: "x\xff"},
		"ahead of a":          {Name: "`"},
		"behind z":            {Name: "{"},
		"ahead of 0":          {Name: "x/"},
		"behind 9":            {Name: "x:"},
		"ahead of the bar":    {Name: "x^"},
		"ahead of a, last":    {Name: "x`"},
		"behind z, last":      {Name: "x{"},
	} {
		faulty(t, what, api.Fault{Code: api.ErrRange}, true, "a", rooms(r), o)
		faulty(t, what, api.Fault{At: 2, Code: api.ErrRange}, true, "none", rooms(room("y", 1<<20), room("z", 1<<20), r, r), o)
	}
}

// 6.1: what an extra range may be at its edges.
func TestRangesThatMayBe(t *testing.T) {
	for _, r := range []api.Range{
		{Name: "x"}, {Name: "a"}, {Name: "z"}, {Name: "a0"}, {Name: "z9_"}, {Name: "x__"}, {Name: strings.Repeat("x", 31)}, {Name: "end"},
		{Name: "r1"}, {Name: "add"}, {Name: "la"}, {Name: "high"}, {Name: "texts"}, {Name: "tex"}, {Name: "data0"}, {Name: "x", Size: 1 << 20}, {Name: "x", Size: 1<<20 - 15, Exec: true},
	} {
		x := linked(t, "m", rooms(r), made(t, "m:"))
		same(t, r.Name, x.Ranges[2], api.Range{Name: r.Name, From: 4096, Size: up(r.Size), Exec: r.Exec})
	}
}

// 6.1, 6.2: names that stand there already.
func TestRangesTwice(t *testing.T) {
	o := made(t, "a:", "b.end:", ".global c", "c:", ".data", "d:", "e.end:", "text.:", "data_:", "F:")
	for _, name := range []string{"a", "b", "c", "d", "e", "text", "data"} {
		faulty(t, name, api.Fault{Code: api.ErrTwice}, true, "a", rooms(room(name, 16)), o)
		faulty(t, name, api.Fault{At: 1, Code: api.ErrTwice}, true, "none", rooms(room("x", 1<<20), room(name, 1<<20), room("X", 16)), o)
	}
	faulty(t, "text, of nothing", api.Fault{Code: api.ErrTwice}, true, "a", rooms(room("text", 0)))
	faulty(t, "data, of nothing", api.Fault{Code: api.ErrTwice}, true, "a", rooms(room("data", 0)))
	faulty(t, "a label text", api.Fault{Code: api.ErrTwice}, true, "text", rooms(room("text", 0)), made(t, "text:"))
	for i := 1; i < 10; i++ {
		var l []api.Range
		for j := range i {
			l = append(l, room(fmt.Sprint("x", j), j))
		}
		for j := range i {
			faulty(t, "one that stood ahead", api.Fault{At: i, Code: api.ErrTwice}, true, "a", append(rooms(l...), api.Range{Name: l[j].Name}), o)
		}
		linked(t, "a", append(l, room("y", 1)), o)
	}
	linked(t, "a", rooms(room("f", 1), room("end", 1), room("b_end", 1), room("a0", 1)), o)
}

// 6.1, 6.2: of extra ranges the first that is wrong, and of one what is out of range first.
func TestRangesInOrder(t *testing.T) {
	o := made(t, "a:", "jump none")
	for _, x := range []struct {
		l    []api.Range
		want api.Fault
	}{
		{rooms(room("a", 16), room("A", 16)), api.Fault{Code: api.ErrTwice}},
		{rooms(room("A", 16), room("a", 16)), api.Fault{Code: api.ErrRange}},
		{rooms(room("x", 16), room("x", -1)), api.Fault{At: 1, Code: api.ErrRange}},
		{rooms(room("x", 16), api.Range{Name: "x", From: 16}), api.Fault{At: 1, Code: api.ErrRange}},
		{rooms(room("a", -1)), api.Fault{Code: api.ErrRange}},
		{rooms(room("x", 1<<20), room("y", 1<<20), room("x", 0), room("", 0)), api.Fault{At: 2, Code: api.ErrTwice}},
		{rooms(room("x", 1<<20), room("y", 1)), api.Fault{Code: api.ErrLong}},
	} {
		faulty(t, "ranges", x.want, true, "none", x.l, o)
	}
	var many []api.Range
	for i := range 100 {
		many = append(many, room(fmt.Sprint("x", i), 0))
	}
	faulty(t, "many", api.Fault{Code: api.ErrLong}, true, "none", many, o)
	faulty(t, "many, and one twice", api.Fault{At: 100, Code: api.ErrTwice}, true, "none", append(many, room("x0", 0)), o)
	many[99].From = 16
	faulty(t, "many, and one out of range", api.Fault{At: 99, Code: api.ErrRange}, true, "none", many, o)
}

// 6.1, 6.2: how many ranges there may be: 16, with text and data.
func TestHowManyRanges(t *testing.T) {
	var l []api.Range
	for i := range 14 {
		l = append(l, room(fmt.Sprint("x", i), 1))
	}
	same(t, "sixteen", len(linked(t, "a", l, made(t, "a:")).Ranges), 16)
	for range 3 {
		l = append(l, room(fmt.Sprint("y", len(l)), 0))
		faulty(t, all(len(l), " extra ones"), api.Fault{Code: api.ErrLong}, true, "a", l, made(t, "a:"))
		faulty(t, all(len(l), " extra ones, alone"), api.Fault{Code: api.ErrLong}, true, "a", l)
	}
	for len(l) < 1<<16 {
		l = append(l, room(fmt.Sprint("z", len(l)), 1<<20))
	}
	faulty(t, "very many", api.Fault{Code: api.ErrLong}, true, "a", l, made(t, "a:"))
}

// 6.1, 6.2: how many bytes all ranges may have, rounded up as they are.
func TestHowManyBytes(t *testing.T) {
	const most = 1 << 20
	for _, x := range []struct {
		text, data int
		extra      []api.Range
		fits       bool
	}{
		{most, 0, nil, true}, {0, most, nil, true}, {0, 0, rooms(room("x", most)), true}, {0, 0, rooms(room("x", most-15)), true},
		{most - 16, 16, nil, true}, {most - 16, 1, nil, true}, {most - 31, 1, nil, true}, {most - 15, 1, nil, false}, {most, 1, nil, false}, {1, most, nil, false}, {most, most, nil, false},
		{16, 16, rooms(room("x", most-32)), true}, {1, 1, rooms(room("x", most-32)), true}, {1, 1, rooms(room("x", most-31)), false}, {17, 1, rooms(room("x", most-32)), false}, {1, 17, rooms(room("x", most-32)), false},
		{0, 0, rooms(room("x", most/2), room("y", most/2)), true}, {0, 0, rooms(room("x", most/2), room("y", most/2), room("z", 0)), true},
		{0, 0, rooms(room("x", most/2), room("y", most/2), room("z", 1)), false}, {0, 0, rooms(room("x", 1), room("y", 1), room("z", most-32)), true}, {0, 0, rooms(room("x", 1), room("y", 1), room("z", most-31)), false},
		{most, 0, rooms(room("x", 1)), false}, {most, 0, rooms(room("x", most)), false}, {0, 1, rooms(room("x", most)), false}, {most, 0, rooms(room("x", 0)), true},
	} {
		o := api.Object{Text: make([]byte, x.text), Data: make([]byte, x.data), Labels: []api.Label{{Name: "m"}}}
		what := fmt.Sprint(x.text, ", ", x.data, ", ", x.extra)
		if !x.fits {
			o.Labels = nil
			faulty(t, what, api.Fault{Code: api.ErrLong}, true, "m", x.extra, o)
			continue
		}
		image := linked(t, "m", x.extra, o)
		last := image.Ranges[len(image.Ranges)-1]
		if end := last.From + last.Size; end > 4096+most {
			t.Errorf("%s: they end at %d", what, end)
		}
	}
}

// 6.1: relocations whose names stand for nothing, or whose numbers do not fit: the first one, of one the name first, by its place in the joined object, ahead of the entry.
func TestRelocsFaults(t *testing.T) {
	fine := made(t, "m:", "jump m", "la r1 m", ".byte 1", "o:", ".data", ".word m", ".word x.end", "d:")
	extra := rooms(room("x", 16))
	for _, x := range []struct {
		o    []api.Object
		want api.Fault
	}{
		{[]api.Object{fine, made(t, "jump none")}, api.Fault{At: 3, Code: api.ErrLabels}},
		{[]api.Object{fine, made(t, ".data", ".word none")}, api.Fault{At: 5, Code: api.ErrLabels}},
		{[]api.Object{made(t, ".data", ".word none"), fine}, api.Fault{At: 3, Code: api.ErrLabels}},
		{[]api.Object{fine, made(t, "la r1 none")}, api.Fault{At: 3, Code: api.ErrLabels}},
		{[]api.Object{fine, made(t, "la r1 m", "call none+4", "jump o")}, api.Fault{At: 5, Code: api.ErrLabels}},
		{[]api.Object{fine, made(t, "la r1 m", "jump o", "call none+4")}, api.Fault{At: 5, Code: api.ErrRoom}},
		{[]api.Object{fine, made(t, "bz r1 none"), made(t, "jump o")}, api.Fault{At: 3, Code: api.ErrLabels}},
		{[]api.Object{fine, made(t, "bz r1 o"), made(t, "jump none")}, api.Fault{At: 3, Code: api.ErrRoom}},
		{[]api.Object{made(t, ".data", ".word none"), fine, made(t, "jump o")}, api.Fault{At: 3, Code: api.ErrRoom}},
		{[]api.Object{fine, made(t, "jump m+1")}, api.Fault{At: 3, Code: api.ErrRoom}},
		{[]api.Object{fine, made(t, "jump x"), made(t, "jump text")}, api.Fault{At: 4, Code: api.ErrLabels}},
		{[]api.Object{fine, made(t, "jump data")}, api.Fault{At: 3, Code: api.ErrLabels}},
		{[]api.Object{fine, made(t, "jump text.end")}, api.Fault{At: 3, Code: api.ErrLabels}},
		{[]api.Object{fine, made(t, "jump data.end")}, api.Fault{At: 3, Code: api.ErrLabels}},
		{[]api.Object{fine, made(t, "jump x.end.end")}, api.Fault{At: 3, Code: api.ErrLabels}},
		{[]api.Object{fine, made(t, "jump M")}, api.Fault{At: 3, Code: api.ErrLabels}},
		{[]api.Object{fine, made(t, "jump m.end")}, api.Fault{At: 3, Code: api.ErrLabels}},
	} {
		for _, entry := range []string{"m", "d", "none"} {
			faulty(t, all(x.want), x.want, false, entry, extra, x.o...)
		}
	}
	faulty(t, "a range that is not there", api.Fault{At: 4, Code: api.ErrLabels}, false, "m", nil, fine)
	faulty(t, "an entry of data", api.Fault{Code: api.ErrNone}, false, "d", extra, fine)
	linked(t, "o", extra, fine, made(t, "jump x", "call x.end", "jump d+4"))
}

// 6.1: no objects, no ranges.
func TestNothing(t *testing.T) {
	faulty(t, "nothing", api.Fault{Code: api.ErrNone}, false, "", nil)
	l, f := link.Symbols(nil)
	same(t, "symbols", all(l, f), all([]api.Symbol{}, api.Fault{}))
	faulty(t, "objects of nothing", api.Fault{Code: api.ErrNone}, false, "m", []api.Range{}, make([]api.Object, 1<<16)...)
}
