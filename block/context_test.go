package block_test

import (
	"math"
	"testing"

	"catapult/api"
)

// 14.4: a context's pieces stand there, and tell it.
func TestContext(t *testing.T) {
	s := made(t, 72, 64)
	for _, c := range []int{0, 1, 255, 1 << 40, math.MaxInt} {
		for _, off := range []int{0, 4, 8} {
			s.Unset(at(1, 0), 72)
			does(t, s, all("SetContext", c, off), all(api.OK), func() string { return all(s.SetContext(at(1, off), c)) }, 1)
			holds(t, s, 1, holes(off), parts(c), holes(8-off))
			same(t, all("Context", off), all(s.Context(at(1, off))), all(c, api.OK))
		}
	}
	does(t, s, "just a context's bytes", all(api.OK), func() string { return all(s.SetContext(at(2, 0), 5)) }, 2)
	same(t, "Context", all(s.Context(at(2, 0))), all(5, api.OK))
}

// 14.4: what is wrong, in its order.
func TestContextRefused(t *testing.T) {
	s := made(t, 72, 72, -72, 63)
	s.SetContext(at(1, 0), 1)
	s.SetContext(at(2, 0), 1)
	s.Kill(2)
	for p, e := range map[api.Value]api.Errno{
		none: api.ErrReach, null: api.ErrReach, fun(1): api.ErrReach, num(1): api.ErrReach, {Kind: 5, Int: 1}: api.ErrReach, at(0, 0): api.ErrReach, at(5, 0): api.ErrReach, at(-1, 0): api.ErrReach,
		at(1, -4): api.ErrReach, at(1, 9): api.ErrReach, at(1, 12): api.ErrReach, at(1, 72): api.ErrReach, at(1, math.MaxInt): api.ErrReach, at(1, math.MinInt): api.ErrReach, at(4, 0): api.ErrReach, at(3, 12): api.ErrReach,
		at(2, 0): api.ErrDead, at(2, 1): api.ErrDead, at(2, 100): api.ErrDead, at(2, -1): api.ErrReach,
		at(1, 1): api.ErrSkew, at(1, 2): api.ErrSkew, at(1, 3): api.ErrSkew, at(1, 6): api.ErrSkew, at(3, 5): api.ErrSkew,
	} {
		does(t, s, all("SetContext at", p), all(e), func() string { return all(s.SetContext(p, 0)) })
		does(t, s, all("SetContext below 0 at", p), all(api.ErrRange), func() string { return all(s.SetContext(p, -1)) })
		does(t, s, all("Context at", p), all(0, e), func() string { return all(s.Context(p)) })
	}
	does(t, s, "below 0", all(api.ErrRange), func() string { return all(s.SetContext(at(1, 0), math.MinInt)) })
	does(t, s, "of a string", all(api.ErrFixed), func() string { return all(s.SetContext(at(3, 4), 0)) })
	does(t, s, "Context of a string", all(0, api.ErrHole), func() string { return all(s.Context(at(3, 4))) })
}

// 14.4: a context of which one byte is another one is none.
func TestContextSpoiled(t *testing.T) {
	for k := range 64 {
		s := made(t, 64, 128, 64)
		s.SetContext(at(1, 0), 7)
		s.SetContext(at(2, 0), 8)
		s.SetContext(at(2, 64), 7)
		same(t, "Copy", s.Copy(at(1, k), at(2, k), 1), api.OK)
		same(t, all("with a piece of another one", k), all(s.Context(at(1, 0))), all(0, api.ErrPieces))
		same(t, "Copy", s.Copy(at(1, k), at(2, 64+(k+1)%64), 1), api.OK)
		same(t, all("with another piece", k), all(s.Context(at(1, 0))), all(0, api.ErrPieces))
		same(t, "Copy", s.Copy(at(1, k), at(2, 64+k), 1), api.OK)
		same(t, all("made whole", k), all(s.Context(at(1, 0))), all(7, api.OK))
		same(t, "Put", s.Put(at(1, k), string(rune(k))), api.OK)
		same(t, all("with a number", k), all(s.Context(at(1, 0))), all(0, api.ErrPieces))
		same(t, "Unset", s.Unset(at(1, k), 1), api.OK)
		same(t, all("with a hole", k), all(s.Context(at(1, 0))), all(0, api.ErrHole))
		same(t, "Put", s.Put(at(1, (k+1)%64), "a"), api.OK)
		same(t, all("with a hole, and a number", k), all(s.Context(at(1, 0))), all(0, api.ErrHole))
	}
	s := made(t, 64)
	same(t, "of what is unset", all(s.Context(at(1, 0))), all(0, api.ErrHole))
	for i := range 16 {
		s.Store(at(1, 4*i), "i", num(0))
	}
	same(t, "of numbers", all(s.Context(at(1, 0))), all(0, api.ErrPieces))
	for i := range 16 {
		s.Store(at(1, 4*i), "pv", null)
	}
	same(t, "of pointers", all(s.Context(at(1, 0))), all(0, api.ErrPieces))
}
