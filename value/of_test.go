package value_test

import (
	"math"
	"slices"
	"testing"

	"catapult/api"
	"catapult/value"
)

// everyType is all types of the tests, of whatever sort.
func everyType() []api.Type { return slices.Concat(wholes, places, functions, strange) }

// ofAlone fails where a value is not of just these types.
func ofAlone(t *testing.T, v api.Value, l ...api.Type) {
	t.Helper()
	for _, x := range everyType() {
		same(t, all("Of", x, v), value.Of(x, v), slices.Contains(l, x))
	}
}

// 15.1: numbers are of the integer types that have them.
func TestOfNumbers(t *testing.T) {
	for _, x := range []struct {
		n    int
		want []api.Type
	}{
		{0, wholes}, {1, wholes}, {127, wholes}, {128, []api.Type{"s", "i", "u"}}, {255, []api.Type{"s", "i", "u"}}, {256, []api.Type{"s", "i", "u"}}, {32767, []api.Type{"s", "i", "u"}},
		{32768, []api.Type{"i", "u"}}, {65535, []api.Type{"i", "u"}}, {65536, []api.Type{"i", "u"}}, {greatest, []api.Type{"i", "u"}}, {greatest + 1, []api.Type{"u"}}, {most, []api.Type{"u"}},
		{most + 1, nil}, {most + 2, nil}, {math.MaxInt, nil}, {math.MinInt, nil}, {-most - 1, nil},
		{-1, []api.Type{"c", "s", "i"}}, {-128, []api.Type{"c", "s", "i"}}, {-129, []api.Type{"s", "i"}}, {-32768, []api.Type{"s", "i"}}, {-32769, []api.Type{"i"}}, {least, []api.Type{"i"}}, {least - 1, nil}, {-most, nil},
	} {
		ofAlone(t, num(x.n), x.want...)
	}
}

// 15.1: what is unset is of every scalar type, pointers are of those of their sort, and all else of none.
func TestOfTheOthers(t *testing.T) {
	ofAlone(t, none, slices.Concat(wholes, places, functions)...)
	ofAlone(t, null, slices.Concat(places, functions)...)
	for _, v := range []api.Value{at(0, 0), at(1, 0), at(0, 1), at(7, 100), at(math.MaxInt, math.MaxInt)} {
		ofAlone(t, v, places...)
	}
	for _, v := range []api.Value{fun(0), fun(1), fun(math.MaxInt)} {
		ofAlone(t, v, functions...)
	}
	for _, v := range wrong {
		ofAlone(t, v)
	}
}

// 15.1, R7: no bound is told of a function's number.
func TestOfFunctionsHasNoBound(t *testing.T) {
	ofAlone(t, fun(-1), functions...)
	ofAlone(t, fun(math.MinInt), functions...)
}

// 15.1: Int: a number modulo the type's bits.
func TestInt(t *testing.T) {
	for _, x := range []struct{ n, c, s, i, u int }{
		{0, 0, 0, 0, 0}, {1, 1, 1, 1, 1}, {-1, -1, -1, -1, most}, {127, 127, 127, 127, 127}, {128, -128, 128, 128, 128}, {200, -56, 200, 200, 200}, {255, -1, 255, 255, 255}, {256, 0, 256, 256, 256},
		{-128, -128, -128, -128, most - 127}, {-129, 127, -129, -129, most - 128}, {32767, -1, 32767, 32767, 32767}, {32768, 0, -32768, 32768, 32768}, {-32769, -1, 32767, -32769, most - 32768}, {65535, -1, -1, 65535, 65535}, {65536, 0, 0, 65536, 65536},
		{greatest, -1, -1, greatest, greatest}, {greatest + 1, 0, 0, least, 1 << 31}, {least, 0, 0, least, 1 << 31}, {least - 1, -1, -1, greatest, greatest}, {most, -1, -1, -1, most}, {most + 1, 0, 0, 0, 0}, {most + 6, 5, 5, 5, 5}, {-most - 1, 0, 0, 0, 0},
		{math.MaxInt, -1, -1, -1, most}, {math.MinInt, 0, 0, 0, 0}, {math.MinInt + 0x89abcdef, -17, -12817, -1985229329, 0x89abcdef}, {0x7fff89abcdef, -17, -12817, -1985229329, 0x89abcdef},
	} {
		for i, want := range []int{x.c, x.s, x.i, x.u} {
			same(t, all("Int", wholes[i], x.n), all(value.Int(wholes[i], x.n)), all(num(want), api.OK))
		}
		for _, y := range slices.Concat(places, functions, strange) {
			same(t, all("Int", y, x.n), all(value.Int(y, x.n)), all(none, api.ErrShape))
		}
	}
}
