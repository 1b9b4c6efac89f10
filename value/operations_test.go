package value_test

import (
	"math"
	"slices"
	"testing"

	"catapult/api"
	"catapult/value"
)

// 15.2: Conv of numbers.
func TestConvNumbers(t *testing.T) {
	for _, x := range []struct {
		from, to api.Type
		n, want  int
	}{
		{"i", "c", 200, -56}, {"i", "c", 127, 127}, {"i", "c", 128, -128}, {"i", "c", -129, 127}, {"i", "s", 32768, -32768}, {"i", "s", 40000, -25536}, {"i", "u", -1, most}, {"i", "u", least, 1 << 31}, {"i", "i", least, least},
		{"u", "i", most, -1}, {"u", "i", 1 << 31, least}, {"u", "c", most, -1}, {"u", "s", 98304, -32768}, {"u", "u", most, most}, {"u", "c", 0x12345680, -128},
		{"c", "u", -1, most}, {"c", "u", -128, most - 127}, {"c", "i", -128, -128}, {"c", "s", -1, -1}, {"c", "c", -128, -128}, {"s", "c", 300, 44}, {"s", "u", -32768, most - 32767}, {"s", "i", 32767, 32767}, {"s", "s", -5, -5},
	} {
		same(t, all("Conv", x), all(value.Conv(x.from, x.to, num(x.n))), all(num(x.want), api.OK))
	}
	for _, from := range wholes {
		for _, to := range wholes {
			same(t, all("Conv of what is unset", from, to), all(value.Conv(from, to, none)), all(none, api.ErrUnset))
			for _, v := range slices.Concat(wrong, []api.Value{null, fun(0), at(1, 0)}) {
				if !value.Of(from, v) {
					same(t, all("Conv", from, to, v), all(value.Conv(from, to, v)), all(none, api.ErrShape))
				}
			}
		}
	}
	same(t, "a number that the type has not", all(value.Conv("c", "i", num(128))), all(none, api.ErrShape))
	same(t, "a number that the type has not", all(value.Conv("u", "i", num(-1))), all(none, api.ErrShape))
}

// 15.2: Conv of pointers, both to a function or both not.
func TestConvPointers(t *testing.T) {
	sorts := [][]api.Type{wholes, places, functions, strange}
	values := [][]api.Value{{num(0), num(1)}, {null, at(0, 0), at(5, 7), at(math.MaxInt, 0)}, {null, fun(0), fun(9)}, nil}
	for i, l := range sorts {
		for j, m := range sorts {
			for _, from := range l {
				for _, to := range m {
					for k, vs := range values {
						for _, v := range vs {
							want := all(none, api.ErrShape)
							if i == j && (i == k || v == null) && (i == 1 || i == 2) {
								want = all(v, api.OK)
							}
							if i == 0 && j == 0 && k == 0 {
								want = all(v, api.OK)
							}
							same(t, all("Conv", from, to, v), all(value.Conv(from, to, v)), want)
						}
					}
					e := api.ErrShape
					if i == j && i != 3 {
						e = api.ErrUnset
					}
					same(t, all("Conv of what is unset", from, to), all(value.Conv(from, to, none)), all(none, e))
				}
			}
		}
	}
}

// 15.2: One of numbers.
func TestOneOfNumbers(t *testing.T) {
	for _, x := range []struct {
		t                      api.Type
		n, minus, turned, nots int
	}{
		{"i", 0, 0, -1, 1}, {"i", 1, -1, -2, 0}, {"i", -1, 1, 0, 0}, {"i", least, least, greatest, 0}, {"i", greatest, -greatest, least, 0}, {"i", 5, -5, -6, 0},
		{"u", 0, 0, most, 1}, {"u", 1, most, most - 1, 0}, {"u", most, 1, 0, 0}, {"u", 1 << 31, 1 << 31, greatest, 0}, {"u", greatest, 1<<31 + 1, 1 << 31, 0},
	} {
		same(t, all("KNeg", x), all(value.One(api.KNeg, x.t, num(x.n))), all(num(x.minus), api.OK))
		same(t, all("KCompl", x), all(value.One(api.KCompl, x.t, num(x.n))), all(num(x.turned), api.OK))
		same(t, all("KNot", x), all(value.One(api.KNot, x.t, num(x.n))), all(num(x.nots), api.OK))
	}
	for _, kind := range []int{api.KNeg, api.KCompl} {
		for _, x := range slices.Concat([]api.Type{"c", "s"}, places, functions, strange) {
			for _, v := range []api.Value{num(0), num(1), null, at(1, 1), fun(0), none} {
				same(t, all("One", kind, x, v), all(value.One(kind, x, v)), all(none, api.ErrShape))
			}
		}
		for _, x := range []api.Type{"i", "u"} {
			same(t, all("One", kind, x), all(value.One(kind, x, none)), all(none, api.ErrUnset))
			for _, v := range append([]api.Value{null, at(1, 0), fun(0)}, wrong...) {
				same(t, all("One", kind, x, v), all(value.One(kind, x, v)), all(none, api.ErrShape))
			}
		}
	}
	same(t, "KNeg of what i has not", all(value.One(api.KNeg, "i", num(1<<31))), all(none, api.ErrShape))
	same(t, "KNeg of what u has not", all(value.One(api.KNeg, "u", num(-1))), all(none, api.ErrShape))
}

// 15.2, 15.3: KNot and Truth of any scalar.
func TestNotAndTruth(t *testing.T) {
	hold := func(x api.Type, v api.Value, isSo bool) {
		t.Helper()
		n := 1
		if isSo {
			n = 0
		}
		same(t, all("KNot", x, v), all(value.One(api.KNot, x, v)), all(num(n), api.OK))
		same(t, all("Truth", x, v), all(value.Truth(x, v)), all(isSo, api.OK))
	}
	refused := func(x api.Type, v api.Value, e api.Errno) {
		t.Helper()
		same(t, all("KNot", x, v), all(value.One(api.KNot, x, v)), all(none, e))
		same(t, all("Truth", x, v), all(value.Truth(x, v)), all(false, e))
	}
	for _, x := range wholes {
		hold(x, num(0), false)
		hold(x, num(1), true)
		hold(x, num(127), true)
		refused(x, null, api.ErrShape)
		refused(x, at(1, 0), api.ErrShape)
		refused(x, fun(1), api.ErrShape)
	}
	hold("c", num(-128), true)
	hold("s", num(256), true)
	hold("i", num(least), true)
	hold("u", num(1<<31), true)
	for _, x := range places {
		hold(x, null, false)
		hold(x, at(0, 0), true)
		hold(x, at(3, 0), true)
		refused(x, num(0), api.ErrShape)
		refused(x, fun(0), api.ErrShape)
	}
	for _, x := range functions {
		hold(x, null, false)
		hold(x, fun(0), true)
		hold(x, fun(3), true)
		refused(x, num(0), api.ErrShape)
		refused(x, at(0, 0), api.ErrShape)
	}
	for _, x := range slices.Concat(wholes, places, functions) {
		refused(x, none, api.ErrUnset)
	}
	for _, x := range strange {
		for _, v := range []api.Value{none, num(0), null, at(1, 0), fun(0)} {
			refused(x, v, api.ErrShape)
		}
	}
	for _, v := range wrong {
		for _, x := range []api.Type{"i", "c", "pi", "pf()v"} {
			refused(x, v, api.ErrShape)
		}
	}
}

// 15.3: Two of numbers of i and of u.
func TestTwoOfNumbers(t *testing.T) {
	for _, x := range []struct {
		kind       int
		t          api.Type
		a, b, want int
	}{
		{api.KAdd, "i", 2, 3, 5}, {api.KAdd, "i", greatest, 1, least}, {api.KAdd, "i", least, least, 0}, {api.KAdd, "u", most, 1, 0}, {api.KAdd, "u", most, most, most - 1},
		{api.KSub, "i", 2, 3, -1}, {api.KSub, "i", least, 1, greatest}, {api.KSub, "u", 2, 3, most}, {api.KSub, "u", 0, 1 << 31, 1 << 31},
		{api.KMul, "i", -3, 7, -21}, {api.KMul, "i", 65536, 65536, 0}, {api.KMul, "i", least, -1, least}, {api.KMul, "i", 46341, 46341, -2147479015}, {api.KMul, "u", most, most, 1}, {api.KMul, "u", most, 2, most - 1},
		{api.KDiv, "i", 7, 2, 3}, {api.KDiv, "i", -7, 2, -3}, {api.KDiv, "i", 7, -2, -3}, {api.KDiv, "i", least, -1, least}, {api.KDiv, "i", least, 2, -1 << 30}, {api.KDiv, "u", most, 2, greatest}, {api.KDiv, "u", 7, most, 0}, {api.KDiv, "u", 1 << 31, most, 0}, {api.KDiv, "i", 0, 5, 0},
		{api.KRem, "i", 7, 2, 1}, {api.KRem, "i", -7, 2, -1}, {api.KRem, "i", 7, -2, 1}, {api.KRem, "i", least, -1, 0}, {api.KRem, "u", most, 10, 5}, {api.KRem, "u", 1 << 31, most, 1 << 31}, {api.KRem, "i", -1, 1 << 30, -1},
		{api.KAnd, "i", -1, 12, 12}, {api.KAnd, "i", 12, 10, 8}, {api.KAnd, "u", most, 1 << 31, 1 << 31}, {api.KOr, "i", 12, 10, 14}, {api.KOr, "i", least, 1, least + 1}, {api.KOr, "u", 1 << 31, 1, 1<<31 + 1}, {api.KXor, "i", 12, 10, 6}, {api.KXor, "i", -1, -1, 0}, {api.KXor, "u", most, 1, most - 1}, {api.KXor, "i", least, -1, greatest},
		{api.KShl, "i", 1, 31, least}, {api.KShl, "i", 1, 32, 1}, {api.KShl, "i", 1, 33, 2}, {api.KShl, "i", 3, -1, least}, {api.KShl, "i", -1, 4, -16}, {api.KShl, "u", 1, 31, 1 << 31}, {api.KShl, "u", most, -32, most}, {api.KShl, "u", 3, -31, 6}, {api.KShl, "i", 5, least, 5}, {api.KShl, "u", 5, greatest, 1 << 31},
		{api.KShr, "i", -8, 1, -4}, {api.KShr, "i", -1, 31, -1}, {api.KShr, "i", least, 31, -1}, {api.KShr, "i", -7, 1, -4}, {api.KShr, "i", 8, 33, 4}, {api.KShr, "u", most, 31, 1}, {api.KShr, "u", 1 << 31, -1, 1}, {api.KShr, "u", most, 32, most}, {api.KShr, "u", most, 4, 1<<28 - 1}, {api.KShr, "i", 9, least, 9},
		{api.KLt, "i", -1, 0, 1}, {api.KLt, "i", 0, -1, 0}, {api.KLt, "i", 0, 0, 0}, {api.KLt, "i", least, greatest, 1}, {api.KLt, "u", most, 0, 0}, {api.KLt, "u", 0, most, 1}, {api.KLt, "u", greatest, 1 << 31, 1}, {api.KLt, "u", 1 << 31, 1 << 31, 0},
		{api.KLe, "i", -1, 0, 1}, {api.KLe, "i", 0, -1, 0}, {api.KLe, "i", 0, 0, 1}, {api.KLe, "u", most, 0, 0}, {api.KLe, "u", 0, most, 1}, {api.KLe, "u", most, most, 1}, {api.KLe, "u", 1 << 31, greatest, 0},
		{api.KEq, "i", 5, 5, 1}, {api.KEq, "i", 5, 6, 0}, {api.KEq, "i", -1, -1, 1}, {api.KEq, "u", most, most, 1}, {api.KEq, "u", 1 << 31, 0, 0}, {api.KNe, "i", 5, 5, 0}, {api.KNe, "i", least, 0, 1}, {api.KNe, "u", most, 0, 1}, {api.KNe, "u", 7, 7, 0},
	} {
		same(t, all("Two", x), all(value.Two(x.kind, x.t, num(x.a), num(x.b))), all(num(x.want), api.OK))
	}
}

// pairs are the kinds of operations on two values.
var pairs = []int{api.KAdd, api.KSub, api.KMul, api.KDiv, api.KRem, api.KAnd, api.KOr, api.KXor, api.KShl, api.KShr, api.KLt, api.KLe, api.KEq, api.KNe}

// 15.3: what is wrong with the operands of Two, in its order.
func TestTwoRefused(t *testing.T) {
	refused := func(kind int, x api.Type, a, b api.Value, e api.Errno) {
		t.Helper()
		same(t, all("Two", kind, x, a, b), all(value.Two(kind, x, a, b)), all(none, e))
	}
	for _, kind := range pairs {
		for _, x := range slices.Concat([]api.Type{"c", "s"}, places, functions, strange) {
			for _, v := range []api.Value{num(0), num(1), null, at(1, 1), fun(0), none} {
				refused(kind, x, v, v, api.ErrShape)
			}
		}
		for _, x := range []api.Type{"i", "u"} {
			for _, v := range append([]api.Value{null, at(1, 0), fun(0)}, wrong...) {
				for _, ok := range []api.Value{num(1), num(0), none} {
					refused(kind, x, v, ok, api.ErrShape)
					refused(kind, x, ok, v, api.ErrShape)
				}
				refused(kind, x, v, v, api.ErrShape)
			}
			refused(kind, x, none, num(1), api.ErrUnset)
			refused(kind, x, none, num(0), api.ErrUnset)
			refused(kind, x, num(1), none, api.ErrUnset)
			refused(kind, x, none, none, api.ErrUnset)
		}
		refused(kind, "i", num(1<<31), num(1), api.ErrShape)
		refused(kind, "u", num(-1), num(1), api.ErrShape)
		refused(kind, "i", num(1), num(1<<31), api.ErrShape)
		if kind == api.KShl || kind == api.KShr { // a count is of i
			refused(kind, "u", num(1), num(1<<31), api.ErrShape)
			refused(kind, "u", num(1), num(most), api.ErrShape)
			continue
		}
		refused(kind, "u", num(1), num(-1), api.ErrShape)
		_, e := value.Two(kind, "u", num(1), num(most))
		same(t, all("a great second one", kind), e, api.OK)
	}
	for _, kind := range []int{api.KDiv, api.KRem} {
		for _, x := range []api.Type{"i", "u"} {
			refused(kind, x, num(5), num(0), api.ErrZero)
			refused(kind, x, num(0), num(0), api.ErrZero)
		}
		refused(kind, "i", num(least), num(0), api.ErrZero)
	}
}

// 15.2, 15.3: an operation that is none here, ahead of all else.
func TestNoOperation(t *testing.T) {
	for kind := -3; kind < 60; kind++ {
		isOne := kind == api.KNeg || kind == api.KCompl || kind == api.KNot
		isTwo := slices.Contains(pairs, kind)
		for _, x := range []api.Type{"i", "u", "c", "pi", "v", ""} {
			for _, v := range []api.Value{num(1), num(0), none, null, {Kind: 9}} {
				if !isOne {
					same(t, all("One", kind, x, v), all(value.One(kind, x, v)), all(none, api.ErrRange))
				}
				if !isTwo {
					same(t, all("Two", kind, x, v), all(value.Two(kind, x, v, v)), all(none, api.ErrRange))
				}
			}
		}
		_, e := value.One(kind, "i", num(1))
		same(t, all("One", kind), e == api.OK, isOne)
		_, e = value.Two(kind, "i", num(1), num(1))
		same(t, all("Two", kind), e == api.OK, isTwo)
	}
	for _, kind := range []int{math.MaxInt, math.MinInt, 1<<32 + api.KAdd, 1<<32 + api.KNot, -api.KAdd} {
		same(t, all("One", kind), all(value.One(kind, "i", num(1))), all(none, api.ErrRange))
		same(t, all("Two", kind), all(value.Two(kind, "i", num(1), num(1))), all(none, api.ErrRange))
	}
}
