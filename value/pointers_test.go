package value_test

import (
	"math"
	"slices"
	"testing"

	"catapult/api"
	"catapult/value"
)

// noPlace are values that are no pointers to what is no function.
func noPlace() []api.Value {
	return append([]api.Value{num(0), num(1), fun(0), fun(1), fun(-1)}, wrong...)
}

// noPointer are values of no pointer's type.
func noPointer() []api.Value { return append([]api.Value{num(0), num(1), num(-1)}, wrong...) }

// 15.4: Move, within the size, its ends with it.
func TestMove(t *testing.T) {
	for _, x := range []struct {
		off, n, unit, size, want int
		e                        api.Errno
	}{
		{0, 0, 0, 0, 0, 0}, {0, 0, 4, 0, 0, 0}, {0, 1, 4, 8, 4, 0}, {0, 2, 4, 8, 8, 0}, {8, -2, 4, 8, 0, 0}, {4, -1, 4, 8, 0, 0}, {5, 1, 3, 8, 8, 0}, {3, -1, 3, 8, 0, 0}, {7, 0, 4, 8, 7, 0}, {8, 0, 4, 8, 8, 0}, {7, -2, 3, 8, 1, 0},
		{0, 3, 4, 8, 0, api.ErrWild}, {0, -1, 4, 8, 0, api.ErrWild}, {3, -1, 4, 8, 0, api.ErrWild}, {5, 1, 4, 8, 0, api.ErrWild}, {8, 1, 1, 8, 0, api.ErrWild}, {0, -1, 1, 8, 0, api.ErrWild}, {7, -3, 3, 8, 0, api.ErrWild}, {7, 1, 3, 8, 0, api.ErrWild},
		{9, 0, 4, 8, 0, api.ErrWild}, {9, 0, 0, 8, 0, api.ErrWild}, {12, -1, 4, 8, 8, 0}, {9, -1, 4, 8, 5, 0}, {13, -1, 4, 8, 0, api.ErrWild}, {100, -25, 4, 8, 0, 0}, {100, -26, 4, 8, 0, api.ErrWild}, {100, -23, 4, 8, 8, 0}, {100, -22, 4, 8, 0, api.ErrWild},
		{8, math.MaxInt, 0, 8, 8, 0}, {8, math.MinInt, 0, 8, 8, 0}, {0, -1, 0, 0, 0, 0}, {8, 5, 0, 7, 0, api.ErrWild},
		{0, math.MaxInt, 1, 8, 0, api.ErrWild}, {0, math.MinInt, 1, 8, 0, api.ErrWild}, {0, math.MaxInt, 65536, 65536, 0, api.ErrWild}, {0, math.MinInt, 65536, 65536, 0, api.ErrWild}, {0, math.MinInt, 2, 8, 0, api.ErrWild}, {4, math.MinInt, 4, 8, 0, api.ErrWild}, {4, math.MaxInt, 2, 8, 0, api.ErrWild},
		{0, 1 << 62, 4, 8, 0, api.ErrWild}, {0, -1 << 62, 4, 8, 0, api.ErrWild}, {0, 1 << 48, 65536, 8, 0, api.ErrWild}, {0, 1 << 61, 8, 65536, 0, api.ErrWild}, {0, 1<<62 + 1, 4, 8, 0, api.ErrWild}, {0, 1<<63 - 1<<48, 65536, 8, 0, api.ErrWild}, {7, -1<<62 - 1, 4, 8, 0, api.ErrWild},
		{0, 1, 65536, 65536, 65536, 0}, {65536, -1, 65536, 65536, 0, 0}, {0, 65536, 1, 65536, 65536, 0}, {0, 65537, 1, 65536, 0, api.ErrWild},
		{math.MaxInt, 1, 1, 65536, 0, api.ErrWild}, {math.MaxInt, 0, 1, 65536, 0, api.ErrWild}, {math.MaxInt, 65536, 65536, 65536, 0, api.ErrWild}, {math.MaxInt, -math.MaxInt, 1, 8, 0, 0}, {math.MaxInt, -math.MaxInt + 8, 1, 8, 8, 0}, {math.MaxInt, -math.MaxInt + 9, 1, 8, 0, api.ErrWild}, {math.MaxInt, math.MinInt, 1, 8, 0, api.ErrWild}, {math.MaxInt, math.MaxInt, 65536, 65536, 0, api.ErrWild}, {math.MaxInt, -1 << 61, 4, 65536, 0, api.ErrWild}, {math.MaxInt, 1 - 1<<61, 4, 65536, 3, 0},
	} {
		want := all(none, x.e)
		if x.e == api.OK {
			want = all(at(3, x.want), api.OK)
		}
		same(t, all("Move", x), all(value.Move(at(3, x.off), x.n, x.unit, x.size)), want)
	}
	same(t, "the block stays", all(value.Move(at(math.MaxInt, 1), 1, 2, 3)), all(at(math.MaxInt, 3), api.OK))
	same(t, "the block stays", all(value.Move(at(0, 1), 1, 2, 3)), all(at(0, 3), api.OK))
}

// 15.4: what is wrong with what Move is handed, in its order.
func TestMoveRefused(t *testing.T) {
	refused := func(v api.Value, n, unit, size int, e api.Errno) {
		t.Helper()
		same(t, all("Move", v, n, unit, size), all(value.Move(v, n, unit, size)), all(none, e))
	}
	for _, n := range []int{0, 1, -1, math.MaxInt, math.MinInt} {
		refused(null, n, 4, 8, api.ErrWild)
		refused(null, n, 0, 0, api.ErrWild)
		refused(none, n, 4, 8, api.ErrUnset)
		for _, v := range noPlace() {
			refused(v, n, 4, 8, api.ErrShape)
		}
		for _, wrong := range []int{-1, 65537, math.MaxInt, math.MinInt} {
			for _, v := range []api.Value{at(1, 0), null, none, num(0), fun(1)} {
				refused(v, n, wrong, 8, api.ErrShape)
				refused(v, n, 4, wrong, api.ErrShape)
				refused(v, n, wrong, wrong, api.ErrShape)
			}
		}
	}
}

// 15.4: Apart, in one block, by whole units.
func TestApart(t *testing.T) {
	for _, x := range []struct {
		a, b, unit, want int
		e                api.Errno
	}{
		{0, 0, 1, 0, 0}, {5, 2, 1, 3, 0}, {2, 5, 1, -3, 0}, {12, 4, 4, 2, 0}, {4, 12, 4, -2, 0}, {13, 1, 4, 3, 0}, {7, 7, 65536, 0, 0}, {65536, 0, 65536, 1, 0}, {0, 65536, 65536, -1, 0}, {0, 65536, 1, -65536, 0},
		{5, 2, 2, 0, api.ErrWild}, {2, 5, 2, 0, api.ErrWild}, {12, 4, 16, 0, api.ErrWild}, {4, 12, 16, 0, api.ErrWild}, {1, 0, 65536, 0, api.ErrWild}, {65535, 0, 65536, 0, api.ErrWild},
		{greatest, 0, 1, greatest, 0}, {1 << 31, 0, 1, least, 0}, {0, 1 << 31, 1, least, 0}, {0, 1<<31 + 1, 1, greatest, 0}, {1<<32 + 5, 2, 3, 0, api.ErrWild}, {1<<32 + 8, 0, 3, 1431655768, 0}, {1<<32 + 5, 2, 1, 3, 0}, {1 << 33, 0, 2, 0, 0},
		{math.MaxInt, 0, 1, -1, 0}, {0, math.MaxInt, 1, 1, 0}, {math.MaxInt, math.MaxInt, 7, 0, 0}, {math.MaxInt, 0, 2, 0, api.ErrWild},
	} {
		want := all(none, x.e)
		if x.e == api.OK {
			want = all(num(x.want), api.OK)
		}
		same(t, all("Apart", x), all(value.Apart(at(2, x.a), at(2, x.b), x.unit)), want)
		same(t, all("Apart of two blocks", x), all(value.Apart(at(2, x.a), at(3, x.b), x.unit)), all(none, api.ErrWild))
	}
}

// 15.4: what is wrong with what Apart and Before are handed, in its order.
func TestApartAndBeforeRefused(t *testing.T) {
	refused := func(a, b api.Value, e api.Errno) {
		t.Helper()
		same(t, all("Apart", a, b), all(value.Apart(a, b, 4)), all(none, e))
		same(t, all("Before", a, b), all(value.Before(a, b)), all(false, e))
		for _, unit := range []int{0, -1, 65537, math.MaxInt, math.MinInt} {
			same(t, all("Apart", a, b, unit), all(value.Apart(a, b, unit)), all(none, api.ErrShape))
		}
	}
	refused(null, null, api.ErrWild)
	refused(null, at(1, 0), api.ErrWild)
	refused(at(1, 0), null, api.ErrWild)
	refused(at(0, 0), null, api.ErrWild)
	refused(null, at(0, 0), api.ErrWild)
	refused(at(1, 4), at(2, 4), api.ErrWild)
	refused(at(2, 0), at(1, 4), api.ErrWild)
	for _, v := range []api.Value{none, null, at(1, 0), at(2, 4)} {
		refused(none, v, api.ErrUnset)
		refused(v, none, api.ErrUnset)
	}
	for _, v := range noPlace() {
		for _, w := range append([]api.Value{none, null, at(1, 0)}, noPlace()...) {
			refused(v, w, api.ErrShape)
			refused(w, v, api.ErrShape)
		}
	}
	for _, unit := range []int{0, -1, 65537, math.MaxInt, math.MinInt} {
		same(t, all("Apart", unit), all(value.Apart(at(1, 4), at(1, 0), unit)), all(none, api.ErrShape))
	}
}

// 15.4: Before, in one block.
func TestBefore(t *testing.T) {
	for _, x := range []struct {
		a, b int
		want bool
	}{{0, 0, false}, {0, 1, true}, {1, 0, false}, {5, 5, false}, {4, 8, true}, {8, 4, false}, {0, math.MaxInt, true}, {math.MaxInt, 0, false}, {greatest, greatest + 1, true}, {1 << 32, 1, false}} {
		for _, b := range []int{0, 1, math.MaxInt} {
			same(t, all("Before", x), all(value.Before(at(b, x.a), at(b, x.b))), all(x.want, api.OK))
		}
	}
}

// facts are lists of facts; the first one alone is of two that are so.
var facts = [][]bool{{true, true}, nil, {}, {true}, {false}, {true, false}, {false, true}, {false, false}, {true, true, true}, {true, true, false}, {false, true, true}, {true, true, true, true}}

// 15.4: Same, whatever the facts, where they are not needed.
func TestSameWithoutFacts(t *testing.T) {
	for _, in := range facts {
		told := func(a, b api.Value, isSame bool, e api.Errno) {
			t.Helper()
			same(t, all("Same", a, b, in), all(value.Same(a, b, in...)), all(isSame, e))
			same(t, all("Same", b, a, in), all(value.Same(b, a, in...)), all(isSame, e))
		}
		told(null, null, true, 0)
		for _, v := range []api.Value{at(0, 0), at(1, 0), at(1, 7), at(math.MaxInt, math.MaxInt), fun(0), fun(1), fun(3), fun(math.MaxInt)} {
			told(null, v, false, 0)
			told(v, v, true, 0)
			told(v, none, false, api.ErrUnset)
		}
		told(fun(0), fun(1), false, 0)
		told(fun(7), fun(1), false, 0)
		told(at(1, 0), at(1, 1), false, 0)
		told(at(0, 9), at(0, 1<<32+9), false, 0)
		told(none, none, false, api.ErrUnset)
		told(null, none, false, api.ErrUnset)
		told(fun(0), at(0, 0), false, api.ErrShape)
		told(fun(1), at(1, 0), false, api.ErrShape)
		told(fun(2), at(1, 5), false, api.ErrShape)
		for _, v := range noPointer() {
			for _, w := range slices.Concat([]api.Value{none, null, at(1, 0), fun(0)}, noPointer()) {
				told(v, w, false, api.ErrShape)
			}
		}
	}
}

// 15.4: Same of two blocks: not, if just two facts are told, both so.
func TestSameOfTwoBlocks(t *testing.T) {
	for i, in := range facts {
		for _, x := range [][2]api.Value{{at(1, 0), at(2, 0)}, {at(1, 8), at(2, 0)}, {at(0, 3), at(1, 3)}, {at(0, 0), at(math.MaxInt, 0)}, {at(5, 1), at(4, 2)}} {
			e := api.ErrWild
			if i == 0 {
				e = api.OK
			}
			same(t, all("Same", x, in), all(value.Same(x[0], x[1], in...)), all(false, e))
			same(t, all("Same", x, in, "turned about"), all(value.Same(x[1], x[0], in...)), all(false, e))
		}
	}
}
