package value_test

import (
	"math/big"
	"slices"

	"catapult/api"
)

// What the document's chapter says, reckoned apart from the program, in the plainest way: numbers without a bound, types looked up in lists, and what is wrong as a list, of which the first holds.

// fault is something that may be wrong.
type fault struct {
	holds bool
	e     api.Errno
}

// first is the first thing that is wrong.
func first(l ...fault) api.Errno {
	for _, x := range l {
		if x.holds {
			return x.e
		}
	}
	return api.OK
}

// bounds is the least and the greatest number of an integer type.
func bounds(t api.Type) (int, int) {
	l := [][2]int{{-128, 127}, {-32768, 32767}, {-2147483648, 2147483647}, {0, 4294967295}}[slices.Index(wholes, t)]
	return l[0], l[1]
}

// octets is how many bytes an integer type has.
func octets(t api.Type) int { return []int{1, 2, 4, 4}[slices.Index(wholes, t)] }

func isWhole(t api.Type) bool { return slices.Contains(wholes, t) }

func isPlace(t api.Type) bool { return slices.Contains(places, t) }

func isFunction(t api.Type) bool { return slices.Contains(functions, t) }

// plainOf is Of.
func plainOf(t api.Type, v api.Value) bool {
	switch {
	case v.Kind < 0 || v.Kind > 4:
		return false
	case v.Int != 0 && (v.Kind == 0 || v.Kind == 3):
		return false
	case v.Off != 0 && v.Kind != 2:
		return false
	}
	kinds := ""
	switch {
	case isWhole(t):
		kinds = "01"
		if low, high := bounds(t); v.Kind == 1 && (v.Int < low || v.Int > high) {
			return false
		}
	case isPlace(t):
		kinds = "023"
	case isFunction(t):
		kinds = "034"
	}
	if v.Kind == 2 && (v.Int < 0 || v.Off < 0) {
		return false
	}
	return slices.Contains([]byte(kinds), byte('0'+v.Kind))
}

// plainNumber is a number modulo what a type has, as the type has it.
func plainNumber(t api.Type, n *big.Int) api.Value {
	low, high := bounds(t)
	size := big.NewInt(int64(high - low + 1))
	m := new(big.Int).Mod(n, size)
	if m.Cmp(big.NewInt(int64(high))) > 0 {
		m.Sub(m, size)
	}
	return num(int(m.Int64()))
}

func whole(n int) *big.Int { return big.NewInt(int64(n)) }

func plainInt(t api.Type, n int) (api.Value, api.Errno) {
	if !isWhole(t) {
		return none, api.ErrShape
	}
	return plainNumber(t, whole(n)), api.OK
}

func plainConv(from, to api.Type, v api.Value) (api.Value, api.Errno) {
	alike := isWhole(from) && isWhole(to) || isPlace(from) && isPlace(to) || isFunction(from) && isFunction(to)
	if e := first(fault{!alike, api.ErrShape}, fault{!plainOf(from, v), api.ErrShape}, fault{v.Kind == 0, api.ErrUnset}); e != api.OK {
		return none, e
	}
	if isWhole(to) {
		return plainInt(to, v.Int)
	}
	return v, api.OK
}

func plainTruth(t api.Type, v api.Value) (bool, api.Errno) {
	if e := first(fault{!plainOf(t, v), api.ErrShape}, fault{v.Kind == 0, api.ErrUnset}); e != api.OK {
		return false, e
	}
	return v != num(0) && v != null, api.OK
}

func plainOne(kind int, t api.Type, v api.Value) (api.Value, api.Errno) {
	isWide := t == "i" || t == "u"
	if e := first(fault{kind < 11 || kind > 13, api.ErrRange}, fault{kind != 13 && !isWide, api.ErrShape}, fault{!plainOf(t, v), api.ErrShape}, fault{v.Kind == 0, api.ErrUnset}); e != api.OK {
		return none, e
	}
	switch kind {
	case 11:
		return plainNumber(t, new(big.Int).Neg(whole(v.Int))), api.OK
	case 12:
		return plainNumber(t, new(big.Int).Not(whole(v.Int))), api.OK
	}
	if v == num(0) || v == null {
		return num(1), api.OK
	}
	return num(0), api.OK
}

// compared is 1, if what two numbers compare to is one of these, else 0.
func compared(a, b *big.Int, l ...int) *big.Int {
	if slices.Contains(l, a.Cmp(b)) {
		return whole(1)
	}
	return whole(0)
}

func plainTwo(kind int, t api.Type, a, b api.Value) (api.Value, api.Errno) {
	second := t
	if kind == 22 || kind == 23 {
		second = "i"
	}
	e := first(fault{kind < 14 || kind > 27, api.ErrRange}, fault{t != "i" && t != "u", api.ErrShape}, fault{!plainOf(t, a), api.ErrShape}, fault{!plainOf(second, b), api.ErrShape},
		fault{a.Kind == 0, api.ErrUnset}, fault{b.Kind == 0, api.ErrUnset}, fault{(kind == 17 || kind == 18) && b.Int == 0, api.ErrZero})
	if e != api.OK {
		return none, e
	}
	x, y, z := whole(a.Int), whole(b.Int), new(big.Int)
	count := uint(new(big.Int).Mod(y, whole(32)).Int64())
	switch kind {
	case 14:
		z.Add(x, y)
	case 15:
		z.Sub(x, y)
	case 16:
		z.Mul(x, y)
	case 17:
		z.Quo(x, y)
	case 18:
		z.Rem(x, y)
	case 19:
		z.And(x, y)
	case 20:
		z.Or(x, y)
	case 21:
		z.Xor(x, y)
	case 22:
		z.Lsh(x, count)
	case 23:
		z.Rsh(x, count)
	default:
		return num(int(compared(x, y, [][]int{{-1}, {-1, 0}, {0}, {-1, 1}}[kind-24]...).Int64())), api.OK
	}
	return plainNumber(t, z), api.OK
}

// plainPlace is what is wrong with a value that is to be a pointer to what is no function, but that it is unset.
func plainPlace(v api.Value) fault { return fault{!plainOf("pv", v), api.ErrShape} }

func plainMove(v api.Value, n, unit, size int) (api.Value, api.Errno) {
	sum := new(big.Int).Mul(whole(n), whole(unit))
	sum.Add(sum, whole(v.Off))
	e := first(plainPlace(v), fault{unit < 0 || unit > 65536, api.ErrShape}, fault{size < 0 || size > 65536, api.ErrShape}, fault{v.Kind == 0, api.ErrUnset},
		fault{v.Kind == 3, api.ErrWild}, fault{sum.Sign() < 0 || sum.Cmp(whole(size)) > 0, api.ErrWild})
	if e != api.OK {
		return none, e
	}
	return at(v.Int, int(sum.Int64())), api.OK
}

func plainApart(a, b api.Value, unit int) (api.Value, api.Errno) {
	e := first(plainPlace(a), plainPlace(b), fault{unit < 1 || unit > 65536, api.ErrShape}, fault{a.Kind == 0 || b.Kind == 0, api.ErrUnset}, fault{a.Kind == 3 || b.Kind == 3 || a.Int != b.Int, api.ErrWild})
	if e != api.OK {
		return none, e
	}
	n, left := new(big.Int).QuoRem(new(big.Int).Sub(whole(a.Off), whole(b.Off)), whole(unit), new(big.Int))
	if left.Sign() != 0 {
		return none, api.ErrWild
	}
	return plainNumber("i", n), api.OK
}

func plainSame(a, b api.Value, in ...bool) (bool, api.Errno) {
	isPointer := func(v api.Value) bool { return v.Kind != 1 && (plainOf("pv", v) || plainOf("pf()v", v)) }
	mixed := a.Kind == 2 && b.Kind == 4 || a.Kind == 4 && b.Kind == 2
	apart := a.Kind == 2 && b.Kind == 2 && a.Int != b.Int
	e := first(fault{!isPointer(a) || !isPointer(b) || mixed, api.ErrShape}, fault{a.Kind == 0 || b.Kind == 0, api.ErrUnset},
		fault{apart && len(in) != 2, api.ErrWild}, fault{apart && slices.Contains(in, false), api.ErrWild})
	if e != api.OK || a.Kind != b.Kind || apart {
		return false, e
	}
	return a.Int == b.Int && a.Off == b.Off, api.OK
}

func plainBefore(a, b api.Value) (bool, api.Errno) {
	e := first(plainPlace(a), plainPlace(b), fault{a.Kind == 0 || b.Kind == 0, api.ErrUnset}, fault{a.Kind == 3 || b.Kind == 3 || a.Int != b.Int, api.ErrWild})
	return e == api.OK && a.Off < b.Off, e
}

func plainPack(t api.Type, v api.Value) ([]byte, api.Errno) {
	if e := first(fault{!isWhole(t), api.ErrShape}, fault{!plainOf(t, v), api.ErrShape}, fault{v.Kind == 0, api.ErrUnset}); e != api.OK {
		return nil, e
	}
	n := new(big.Int).Mod(whole(v.Int), whole(1<<32))
	var l []byte
	for range octets(t) {
		digit := new(big.Int)
		n.QuoRem(n, whole(256), digit)
		l = append(l, byte(digit.Int64()))
	}
	return l, api.OK
}

func plainUnpack(t api.Type, b []byte) (api.Value, api.Errno) {
	if !isWhole(t) {
		return none, api.ErrShape
	}
	if len(b) != octets(t) {
		return none, api.ErrLong
	}
	n := new(big.Int)
	for _, digit := range slices.Backward(b) {
		n.Add(n.Mul(n, whole(256)), whole(int(digit)))
	}
	return plainNumber(t, n), api.OK
}
