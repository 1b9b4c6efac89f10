package block_test

import (
	"math"
	"testing"

	"catapult/api"
	"catapult/block"
)

// 14.5: Add: within the block, its end with it; nothing and functions by 0 alone.
func TestAdd(t *testing.T) {
	s := made(t, 8, 8, -8, 0)
	s.Kill(2)
	for _, x := range []struct {
		p    api.Value
		n    int
		want api.Value
		e    api.Errno
	}{
		{null, 0, null, 0}, {fun(3), 0, fun(3), 0}, {null, 1, none, api.ErrReach}, {fun(3), -1, none, api.ErrReach}, {null, math.MinInt, none, api.ErrReach},
		{at(1, 0), 0, at(1, 0), 0}, {at(1, 0), 8, at(1, 8), 0}, {at(1, 8), -8, at(1, 0), 0}, {at(1, 8), 0, at(1, 8), 0}, {at(1, 3), 2, at(1, 5), 0}, {at(3, 3), -2, at(3, 1), 0}, {at(4, 0), 0, at(4, 0), 0},
		{at(1, 0), 9, none, api.ErrReach}, {at(1, 0), -1, none, api.ErrReach}, {at(1, 8), 1, none, api.ErrReach}, {at(1, 8), -9, none, api.ErrReach}, {at(4, 0), 1, none, api.ErrReach}, {at(4, 0), -1, none, api.ErrReach},
		{at(1, 5), math.MaxInt, none, api.ErrReach}, {at(1, 5), math.MinInt, none, api.ErrReach}, {at(1, 0), math.MinInt, none, api.ErrReach}, {at(1, 8), math.MinInt, none, api.ErrReach}, {at(1, 3), 1 << 32, none, api.ErrReach},
		{at(1, 9), 0, none, api.ErrReach}, {at(1, 9), -1, none, api.ErrReach}, {at(1, -1), 1, none, api.ErrReach}, {at(1, -1), 0, none, api.ErrReach},
		{at(2, 0), 0, none, api.ErrDead}, {at(2, 0), 9, none, api.ErrDead}, {at(2, 9), 0, none, api.ErrDead}, {at(2, -1), 0, none, api.ErrReach},
		{at(0, 0), 0, none, api.ErrReach}, {at(5, 0), 0, none, api.ErrReach}, {none, 0, none, api.ErrReach}, {num(1), 0, none, api.ErrReach}, {api.Value{Kind: 9, Int: 1}, 0, none, api.ErrReach},
	} {
		does(t, s, all("Add", x.p, x.n), all(x.want, x.e), func() string { return all(s.Add(x.p, x.n)) })
	}
}

// sameRow is two pointers, whether they are the same, and why it is not told: turned about, too.
type sameRow struct {
	p, q      api.Value
	same      bool
	e, turned api.Errno
}

// holds fails where Same of a row's pointers answers otherwise.
func (x sameRow) holds(t *testing.T, s *block.Store) {
	t.Helper()
	does(t, s, all("Same", x.p, x.q), all(x.same, x.e), func() string { return all(s.Same(x.p, x.q)) })
	if x.turned == api.OK {
		x.turned = x.e
	}
	does(t, s, all("Same", x.q, x.p), all(x.same, x.turned), func() string { return all(s.Same(x.q, x.p)) })
}

// 14.5: Same of nothing, functions, and all else.
func TestSameOfNothing(t *testing.T) {
	s := made(t, 8, 8, -8, 0)
	s.Kill(2)
	for _, x := range []sameRow{
		{p: null, q: null, same: true}, {p: null, q: fun(0)}, {p: fun(1), q: fun(1), same: true}, {p: fun(1), q: fun(2)}, {p: fun(-1), q: fun(-1), same: true}, {p: fun(0), q: fun(0), same: true},
		{p: null, q: at(1, 0)}, {p: null, q: at(1, 8)}, {p: fun(1), q: at(1, 0)}, {p: fun(1), q: at(3, 8)}, {p: null, q: at(4, 0)}, {p: fun(0), q: at(4, 0)},
		{p: null, q: at(1, 9), e: api.ErrReach}, {p: null, q: at(1, -1), e: api.ErrReach}, {p: fun(1), q: at(5, 0), e: api.ErrReach}, {p: fun(1), q: at(0, 0), e: api.ErrReach},
		{p: null, q: at(2, 0), e: api.ErrDead}, {p: fun(2), q: at(2, 8), e: api.ErrDead}, {p: fun(2), q: at(2, 9), e: api.ErrDead}, {p: fun(2), q: at(2, -9), e: api.ErrReach},
		{p: null, q: none, e: api.ErrReach}, {p: null, q: num(0), e: api.ErrReach}, {p: fun(1), q: num(1), e: api.ErrReach}, {p: fun(1), q: api.Value{Kind: 5, Int: 1}, e: api.ErrReach},
	} {
		x.holds(t, s)
	}
	odd := api.Value{Kind: api.VNull, Int: 3, Off: 4}
	same(t, "nothing is nothing, whatever beside", all(s.Same(odd, null)), all(true, api.OK))
	same(t, "a function by its number", all(s.Same(api.Value{Kind: api.VFunc, Int: 1, Off: 4}, fun(1))), all(true, api.OK))
}

// 14.5: Same of pointers into blocks.
func TestSameOfPlaces(t *testing.T) {
	s := made(t, 8, 8, -8, 0, -8, 8, 0)
	s.Kill(2)
	for _, x := range []sameRow{
		{p: at(1, 0), q: at(1, 0), same: true}, {p: at(1, 0), q: at(1, 1)}, {p: at(1, 8), q: at(1, 8), same: true}, {p: at(1, 8), q: at(1, 0)}, {p: at(3, 8), q: at(3, 8), same: true}, {p: at(3, 0), q: at(3, 1)}, {p: at(4, 0), q: at(4, 0), same: true},
		{p: at(1, 0), q: at(6, 0)}, {p: at(1, 7), q: at(6, 0)}, {p: at(1, 0), q: at(3, 0)}, {p: at(1, 7), q: at(5, 7)},
		{p: at(1, 8), q: at(6, 0), e: api.ErrApart}, {p: at(1, 8), q: at(6, 8), e: api.ErrApart}, {p: at(1, 8), q: at(3, 1), e: api.ErrApart}, {p: at(1, 1), q: at(3, 8), e: api.ErrApart}, {p: at(1, 0), q: at(4, 0), e: api.ErrApart}, {p: at(4, 0), q: at(7, 0), e: api.ErrApart},
		{p: at(3, 0), q: at(5, 0), e: api.ErrApart}, {p: at(3, 1), q: at(5, 2), e: api.ErrApart}, {p: at(3, 8), q: at(5, 0), e: api.ErrApart},
		{p: at(1, 0), q: at(2, 0), e: api.ErrDead}, {p: at(2, 0), q: at(2, 0), e: api.ErrDead}, {p: at(1, 8), q: at(2, 0), e: api.ErrDead}, {p: at(3, 0), q: at(2, 8), e: api.ErrDead},
		{p: at(1, 0), q: at(1, 9), e: api.ErrReach}, {p: at(1, 9), q: at(1, 9), e: api.ErrReach}, {p: at(1, -1), q: at(1, -1), e: api.ErrReach}, {p: at(9, 0), q: at(9, 0), e: api.ErrReach}, {p: at(0, 0), q: at(0, 0), e: api.ErrReach},
		{p: at(1, 9), q: at(2, 0), e: api.ErrReach, turned: api.ErrDead}, {p: none, q: at(2, 0), e: api.ErrReach, turned: api.ErrDead}, {p: num(1), q: at(2, 0), e: api.ErrReach, turned: api.ErrDead},
		{p: none, q: none, e: api.ErrReach}, {p: num(1), q: num(1), e: api.ErrReach}, {p: none, q: at(1, 0), e: api.ErrReach}, {p: api.Value{Kind: 7, Int: 1}, q: at(1, 0), e: api.ErrReach},
	} {
		x.holds(t, s)
	}
}

// 14.5: Below and Apart, of one block alone.
func TestBelowAndApart(t *testing.T) {
	s := made(t, 8, 8, -8, 0, 8)
	s.Kill(2)
	for _, x := range []struct {
		p, q api.Value
		n    int
		e    api.Errno
	}{
		{at(1, 0), at(1, 0), 0, 0}, {at(1, 3), at(1, 1), 2, 0}, {at(1, 1), at(1, 3), -2, 0}, {at(1, 8), at(1, 0), 8, 0}, {at(1, 0), at(1, 8), -8, 0}, {at(3, 7), at(3, 8), -1, 0}, {at(3, 8), at(3, 8), 0, 0}, {at(4, 0), at(4, 0), 0, 0},
		{at(1, 0), at(5, 0), 0, api.ErrApart}, {at(5, 4), at(1, 0), 0, api.ErrApart}, {at(1, 8), at(3, 0), 0, api.ErrApart}, {at(4, 0), at(1, 0), 0, api.ErrApart},
		{at(2, 0), at(2, 0), 0, api.ErrDead}, {at(2, 0), at(1, 0), 0, api.ErrDead}, {at(1, 0), at(2, 0), 0, api.ErrDead}, {at(2, 0), at(1, 9), 0, api.ErrDead}, {at(1, 9), at(2, 0), 0, api.ErrReach},
		{at(1, 0), at(1, 9), 0, api.ErrReach}, {at(1, -1), at(1, 0), 0, api.ErrReach}, {at(6, 0), at(6, 0), 0, api.ErrReach}, {at(0, 0), at(1, 0), 0, api.ErrReach}, {at(1, math.MaxInt), at(1, math.MinInt), 0, api.ErrReach},
		{null, null, 0, api.ErrReach}, {null, at(1, 0), 0, api.ErrReach}, {at(1, 0), null, 0, api.ErrReach}, {fun(1), fun(1), 0, api.ErrReach}, {at(1, 0), fun(1), 0, api.ErrReach}, {none, none, 0, api.ErrReach}, {num(1), at(1, 0), 0, api.ErrReach}, {at(1, 0), num(1), 0, api.ErrReach}, {at(1, 0), api.Value{Kind: 5, Int: 1}, 0, api.ErrReach},
		{at(2, 0), null, 0, api.ErrReach}, {null, at(2, 0), 0, api.ErrReach}, {at(2, 0), none, 0, api.ErrReach}, {at(2, 0), num(2), 0, api.ErrReach},
	} {
		does(t, s, all("Apart", x.p, x.q), all(x.n, x.e), func() string { return all(s.Apart(x.p, x.q)) })
		does(t, s, all("Below", x.p, x.q), all(x.n < 0, x.e), func() string { return all(s.Below(x.p, x.q)) })
	}
}
