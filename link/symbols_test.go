package link_test

import (
	"fmt"
	"math"
	"slices"
	"testing"

	"catapult/api"
	"catapult/link"
)

// symbolsOf is the symbols of objects that may be.
func symbolsOf(t *testing.T, extra []api.Range, o ...api.Object) []api.Symbol {
	t.Helper()
	l, f := link.Symbols(extra, o...)
	if f != (api.Fault{}) {
		t.Fatalf("Symbols: %v", f)
	}
	return l
}

// 6.2: all names, by their addresses, of one address by rising bytes; what relocations wait for does not matter.
func TestSymbols(t *testing.T) {
	a := made(t, "b:", "a:", "jump none", "_:", "Z:", "$:", "a.b:", "jump b+1", ".byte 1", "z:", ".data", "d:", ".byte 1 2", "c:")
	b := made(t, ".data", "e:", ".text", ".global y", "y:", "li r0 1", "text:")
	same(t, "two objects, three ranges", symbolsOf(t, rooms(room("stack", 17), room("nil", 0), api.Range{Name: "end", Size: 1}), a, b), []api.Symbol{
		{Name: "a", At: 4096}, {Name: "b", At: 4096}, {Name: "$", At: 4100}, {Name: "Z", At: 4100}, {Name: "_", At: 4100}, {Name: "a.b", At: 4100}, {Name: "z", At: 4105},
		{Name: "y", At: 4112}, {Name: "text", At: 4116}, {Name: "d", At: 4128}, {Name: "c", At: 4130}, {Name: "e", At: 4144},
		{Name: "stack", At: 4144}, {Name: "end", At: 4176}, {Name: "nil", At: 4176}, {Name: "nil.end", At: 4176}, {Name: "stack.end", At: 4176}, {Name: "end.end", At: 4192}})
	same(t, "of nothing, all at one address", symbolsOf(t, rooms(room("x", 0), room("b", 0)), api.Object{Labels: []api.Label{{Name: "z"}, {Name: "a.x"}, {Name: "c", Section: 1}}}),
		[]api.Symbol{{Name: "a.x", At: 4096}, {Name: "b", At: 4096}, {Name: "b.end", At: 4096}, {Name: "c", At: 4096}, {Name: "x", At: 4096}, {Name: "x.end", At: 4096}, {Name: "z", At: 4096}})
	same(t, "a name, and one that begins so", symbolsOf(t, nil, made(t, "ab:", "a:", "abc:", "B:", "a1:", "a.:")),
		[]api.Symbol{{Name: "B", At: 4096}, {Name: "a", At: 4096}, {Name: "a.", At: 4096}, {Name: "a1", At: 4096}, {Name: "ab", At: 4096}, {Name: "abc", At: 4096}})
}

// 6.2: as many as there may be, and the same each time.
func TestManySymbols(t *testing.T) {
	var o api.Object
	for i := range api.MaxItems {
		o.Labels = append(o.Labels, api.Label{Name: fmt.Sprint("l", i*2654435761%4096), At: i / 7})
	}
	o.Text = make([]byte, api.MaxItems/7)
	var extra []api.Range
	for i := range 14 {
		extra = append(extra, room(fmt.Sprint("x", i), i))
	}
	l := symbolsOf(t, extra, o)
	same(t, "how many", len(l), 4096+28)
	for i := 1; i < len(l); i++ {
		if l[i-1].At > l[i].At || l[i-1].At == l[i].At && l[i-1].Name >= l[i].Name {
			t.Errorf("%v stands ahead of %v", l[i-1], l[i])
		}
	}
	for range 20 {
		if again := symbolsOf(t, extra, o); !slices.Equal(again, l) {
			t.Fatal("they stand in another order")
		}
	}
}

// 6.3: the name that is farthest on, at or ahead of an address, and how far behind it the address is.
func TestNear(t *testing.T) {
	l := []api.Symbol{{Name: "c", At: 30}, {Name: "a", At: 10}, {Name: "b", At: 20}, {Name: "a2", At: 10}, {Name: "c2", At: 30}, {Name: "z", At: -5}, {Name: "b2", At: 20}}
	for at, want := range map[int]string{
		-6: all("", 0, api.ErrNone), -5: all("z", 0, api.OK), -1: all("z", 4, api.OK), 9: all("z", 14, api.OK), 10: all("a", 0, api.OK), 19: all("a", 9, api.OK),
		20: all("b", 0, api.OK), 29: all("b", 9, api.OK), 30: all("c", 0, api.OK), 31: all("c", 1, api.OK), math.MaxInt: all("c", math.MaxInt-30, api.OK), math.MinInt: all("", 0, api.ErrNone),
	} {
		name, behind, e := link.Near(l, at)
		same(t, all("near ", at), all(name, behind, e), want)
	}
	name, behind, e := link.Near(nil, 5)
	same(t, "of none", all(name, behind, e), all("", 0, api.ErrNone))
	name, behind, e = link.Near([]api.Symbol{{Name: "x", At: 6}}, 5)
	same(t, "of one that is behind", all(name, behind, e), all("", 0, api.ErrNone))
	name, behind, e = link.Near([]api.Symbol{{At: 5}, {Name: "x", At: 5}}, 5)
	same(t, "of one without a name", all(name, behind, e), all("", 0, api.OK))
}

// 6.3: differences that do not fit in an int go round.
func TestNearGoesRound(t *testing.T) {
	for _, x := range []struct{ symbol, at, behind int }{
		{math.MinInt, math.MinInt, 0}, {math.MinInt, math.MaxInt, -1}, {math.MinInt, 0, math.MinInt}, {math.MinInt, -1, math.MaxInt},
		{-1, math.MaxInt, math.MinInt}, {-5, math.MaxInt, math.MinInt + 4}, {0, math.MaxInt, math.MaxInt}, {math.MaxInt, math.MaxInt, 0}, {math.MinInt + 1, math.MaxInt, -2},
	} {
		name, behind, e := link.Near([]api.Symbol{{Name: "x", At: x.symbol}}, x.at)
		same(t, all("near ", x), all(name, behind, e), all("x", x.behind, api.OK))
	}
	_, _, e := link.Near([]api.Symbol{{Name: "x", At: math.MaxInt}}, math.MinInt)
	same(t, "far ahead", e, api.ErrNone)
	name, behind, e := link.Near([]api.Symbol{{Name: "x", At: math.MinInt}, {Name: "y", At: math.MaxInt}, {Name: "z", At: -1}}, math.MaxInt-1)
	same(t, "of those the farthest on", all(name, behind, e), all("z", math.MaxInt, api.OK))
}

// 6.3: a list has at most MaxItems.
func TestNearTooMany(t *testing.T) {
	l := make([]api.Symbol, api.MaxItems+1)
	l[api.MaxItems-1] = api.Symbol{Name: "x", At: 3}
	name, behind, e := link.Near(l[:api.MaxItems], 5)
	same(t, "as many as may be", all(name, behind, e), all("x", 2, api.OK))
	for _, at := range []int{5, -1} {
		name, behind, e = link.Near(l, at)
		same(t, "one more", all(name, behind, e), all("", 0, api.ErrLong))
	}
}

// 6.3: many lists by chance, as the plainest way has it.
func TestManyNears(t *testing.T) {
	for seed := range 3000 {
		c := chance(seed*31 + 5)
		var l []api.Symbol
		for i := range c.below(8) {
			l = append(l, api.Symbol{Name: fmt.Sprint("s", i), At: c.below(12)})
		}
		at := c.below(14) - 1
		want := all("", 0, api.ErrNone)
		for place := at; place >= 0 && want == all("", 0, api.ErrNone); place-- {
			if i := slices.IndexFunc(l, func(s api.Symbol) bool { return s.At == place }); i >= 0 {
				want = all(l[i].Name, at-place, api.OK)
			}
		}
		name, behind, e := link.Near(l, at)
		same(t, all("near ", at, " of ", l), all(name, behind, e), want)
	}
}

// 6.2, 6.3: each name of Symbols is found where it stands, or the first of its address is; and behind it.
func TestNearOfSymbols(t *testing.T) {
	o := made(t, "a:", "li r0 1", "b:", "c:", "li r0 2", ".byte 1", "d:", ".data", ".byte 5", "e:")
	l := symbolsOf(t, rooms(room("stack", 100)), o)
	for i, s := range l {
		if i > 0 && l[i-1].At == s.At {
			continue
		}
		for behind := range 200 {
			if i+1 < len(l) && s.At+behind >= l[i+1].At {
				break
			}
			name, by, e := link.Near(l, s.At+behind)
			same(t, all("near ", s.At+behind), all(name, by, e), all(s.Name, behind, api.OK))
		}
	}
	_, _, e := link.Near(l, 4095)
	same(t, "ahead of all", e, api.ErrNone)
}
