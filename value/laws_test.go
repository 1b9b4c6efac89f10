package value_test

import (
	"math"
	"slices"
	"testing"

	"catapult/api"
	"catapult/value"
	"catapult/word"
)

// byWords is what layer 1 makes of two words, from 0 on or with their signs; false by nought.
func byWords(kind int, fromNought bool, a, b uint32) (w uint32, ok bool) {
	ok = true
	switch {
	case kind == api.KAdd:
		w, _ = word.Add(a, b)
	case kind == api.KSub:
		w, _ = word.Sub(a, b)
	case kind == api.KMul:
		w, _ = word.Mul(a, b)
	case kind == api.KDiv && fromNought:
		w, _, ok = word.DivU(a, b)
	case kind == api.KDiv:
		w, _, ok = word.Div(a, b)
	case kind == api.KRem && fromNought:
		_, w, ok = word.DivU(a, b)
	case kind == api.KRem:
		_, w, ok = word.Div(a, b)
	case kind == api.KAnd:
		w = a & b
	case kind == api.KOr:
		w = a | b
	case kind == api.KXor:
		w = a ^ b
	case kind == api.KShl:
		w = word.Shl(a, b)
	case kind == api.KShr && fromNought:
		w = word.ShrU(a, b)
	case kind == api.KShr:
		w = word.Shr(a, b)
	}
	return w, ok
}

// 15.6: Two of i is layer 1's; of u, too.
func TestTwoIsOfLayerOne(t *testing.T) {
	c := chance(6)
	for range 20000 {
		a, b := uint32(c.someNumber()), uint32(c.someNumber())
		signedA, signedB := num(word.Signed(a)), num(word.Signed(b))
		for kind := api.KAdd; kind <= api.KShr; kind++ {
			w, ok := byWords(kind, false, a, b)
			want := all(num(word.Signed(w)), api.OK)
			if !ok {
				want = all(none, api.ErrZero)
			}
			same(t, all("Two", kind, "i", a, b), all(value.Two(kind, "i", signedA, signedB)), want)
			w, ok = byWords(kind, true, a, b)
			want = all(num(int(w)), api.OK)
			if !ok {
				want = all(none, api.ErrZero)
			}
			second := num(int(b))
			if kind == api.KShl || kind == api.KShr {
				second = signedB
			}
			same(t, all("Two", kind, "u", a, b), all(value.Two(kind, "u", num(int(a)), second)), want)
		}
		less, _ := value.Two(api.KLt, "i", signedA, signedB)
		same(t, all("KLt", a, b), less == num(1), word.Lt(a, b))
		less, _ = value.Two(api.KLt, "u", num(int(a)), num(int(b)))
		same(t, all("KLt of u", a, b), less == num(1), a < b)
	}
}

// 15.6: Conv to a type that is wider, and back, is none; likewise between i and u.
func TestConvThereAndBack(t *testing.T) {
	wider := map[api.Type][]api.Type{"c": {"c", "s", "i", "u"}, "s": {"s", "i", "u"}, "i": {"i", "u"}, "u": {"u", "i"}}
	c := chance(7)
	for from, l := range wider {
		for n := range 1 << 16 {
			v := plainNumber(from, whole(n))
			if from == "i" || from == "u" {
				v = c.someWhole(from)
			}
			for _, to := range l {
				there, e := value.Conv(from, to, v)
				back, e2 := value.Conv(to, from, there)
				if e != api.OK || e2 != api.OK || back != v || !value.Of(to, there) {
					t.Fatalf("%v of %s to %s and back: %v %v, %v %v", v, from, to, there, e, back, e2)
				}
			}
		}
	}
}

// 15.7: Move there and back is none; Apart of Move tells the number, Before and Same whether it is above 0, and 0.
func TestMoveThereAndBack(t *testing.T) {
	c := chance(8)
	moved := 0
	for range 100000 {
		unit, size := 1+c.below(one(&c, 8, 100, 65536)), c.below(65537)
		p := at(c.below(3), c.below(size+1))
		n := c.below(2*size/unit+1) - size/unit
		q, e := value.Move(p, n, unit, size)
		if e != api.OK {
			continue
		}
		moved++
		same(t, all("Move back", p, n, unit, size), all(value.Move(q, -n, unit, size)), all(p, api.OK))
		same(t, all("Apart", q, p, unit), all(value.Apart(q, p, unit)), all(num(n), api.OK))
		same(t, all("Before", p, q), all(value.Before(p, q)), all(n > 0, api.OK))
		same(t, all("Same", p, q), all(value.Same(p, q)), all(n == 0, api.OK))
	}
	if moved < 30000 {
		t.Errorf("%d moves", moved)
	}
}

// 15.4: Same turns about, and goes on, where it is told.
func TestSameIsEqual(t *testing.T) {
	l := []api.Value{null, fun(0), fun(1), at(0, 0), at(0, 1), at(1, 0), at(1, 1), at(1, 1), at(2, 0), none, num(0)}
	for _, p := range l {
		for _, q := range l {
			for _, in := range facts {
				same(t, all("Same turned about", p, q, in), all(value.Same(p, q, in...)), all(value.Same(q, p, in...)))
				if isSame, _ := value.Same(p, q, in...); isSame != (p == q && p.Kind > 1) {
					t.Errorf("Same of %v, %v: %v", p, q, isSame)
				}
			}
		}
	}
}

// 15.8: no call that is handed what is unset answers a value, whatever stands beside it.
func TestUnsetComesToNothing(t *testing.T) {
	beside := slices.Concat([]api.Value{none, null, at(1, 0), at(2, 4), fun(0), num(0), num(1)}, wrong)
	refused := func(what string, isZero bool, e api.Errno) {
		t.Helper()
		if !isZero || e != api.ErrUnset && e != api.ErrShape {
			t.Errorf("%s: %v, %v", what, isZero, e)
		}
	}
	for _, x := range everyType() {
		for _, y := range []api.Type{"c", "s", "i", "u", "pv", "pf()v", "v"} {
			v, e := value.Conv(x, y, none)
			refused(all("Conv", x, y), v == none, e)
		}
		yes, e := value.Truth(x, none)
		refused(all("Truth", x), !yes, e)
		b, e := value.Pack(x, none)
		refused(all("Pack", x), b == nil, e)
		for _, kind := range []int{api.KNeg, api.KCompl, api.KNot} {
			v, e := value.One(kind, x, none)
			refused(all("One", kind, x), v == none, e)
		}
		for _, kind := range pairs {
			for _, w := range beside {
				v, e := value.Two(kind, x, none, w)
				refused(all("Two", kind, x, w), v == none, e)
				v, e = value.Two(kind, x, w, none)
				refused(all("Two", kind, x, w), v == none, e)
			}
		}
	}
	for _, w := range beside {
		for _, l := range [][2]api.Value{{none, w}, {w, none}} {
			v, e := value.Apart(l[0], l[1], 4)
			refused(all("Apart", l), v == none, e)
			yes, e := value.Same(l[0], l[1], true, true)
			refused(all("Same", l), !yes, e)
			yes, e = value.Before(l[0], l[1])
			refused(all("Before", l), !yes, e)
		}
	}
	v, e := value.Move(none, 0, 4, 8)
	refused("Move", v == none, e)
}

// 15.9: Unpack of Pack is the value; and Pack of Unpack the bytes.
func TestUnpackOfPack(t *testing.T) {
	c := chance(9)
	for n := range 1 << 16 {
		for i, x := range wholes {
			v := plainNumber(x, whole(n))
			if i > 1 {
				v = c.someWhole(x)
			}
			b, e := value.Pack(x, v)
			got, e2 := value.Unpack(x, b)
			if e != api.OK || e2 != api.OK || got != v {
				t.Fatalf("%v of %s: %v, %v, %v, %v", v, x, b, e, got, e2)
			}
			l := []byte{byte(n), byte(n >> 8), byte(c.below(256)), byte(c.below(256))}[:len(b)]
			v, _ = value.Unpack(x, l)
			if b, e := value.Pack(x, v); e != api.OK || !slices.Equal(b, l) {
				t.Fatalf("%v of %s: %v, %v, %v", l, x, v, b, e)
			}
		}
	}
}

// R4: what is handed in is not written to, and may be written over later; what is answered is the caller's.
func TestOwnMemory(t *testing.T) {
	b, _ := value.Pack("i", num(0x01020304))
	other, _ := value.Pack("i", num(0x01020304))
	clear(b[:cap(b)])
	same(t, "Pack", other, []byte{4, 3, 2, 1})
	for _, x := range wholes {
		room := []byte{1, 2, 3, 4, 5, 6}
		value.Unpack(x, room[:octets(x)])
		same(t, "what was unpacked", room, []byte{1, 2, 3, 4, 5, 6})
	}
	in := []bool{true, true, false}
	value.Same(at(1, 0), at(2, 0), in[:2]...)
	same(t, "the facts", in, []bool{true, true, false})
}

// R5: the same in any order of calls.
func TestAnswersHangOnArgumentsAlone(t *testing.T) {
	var there []string
	for seed := range 3000 {
		c := chance(seed)
		_, got, _ := one(&c, c.numbers, c.two, c.pointers)()
		there = append(there, got)
	}
	for seed := 2999; seed >= 0; seed-- {
		c := chance(seed)
		what, got, _ := one(&c, c.numbers, c.two, c.pointers)()
		same(t, what, got, there[seed])
	}
}

// R1, R3: whatever is handed in, each call answers, and what it answers beside an error is nothing.
func TestTotal(t *testing.T) {
	alone := func(what string, isZero bool, e api.Errno) {
		t.Helper()
		if e != api.OK && !isZero {
			t.Errorf("%s: something stands beside %v", what, e)
		}
	}
	l := []int{0, 1, -1, 2, 4, 14, 31, 1 << 31, 1 << 32, 65536, 65537, math.MaxInt, math.MaxInt - 1, math.MinInt, math.MinInt + 1}
	var values []api.Value
	for _, kind := range []int{-1, 0, 1, 2, 3, 4, 5, math.MaxInt} {
		for _, n := range l {
			values = append(values, api.Value{Kind: kind, Int: n}, api.Value{Kind: kind, Off: n}, api.Value{Kind: kind, Int: n, Off: n}, api.Value{Kind: kind, Int: 1, Off: n})
		}
	}
	for i, v := range values {
		x := everyType()[i%len(everyType())]
		for _, n := range l {
			for _, m := range l {
				w, e := value.Move(v, n, m, 65536)
				alone(all("Move", v, n, m), w == none, e)
				w, e = value.Move(v, n, 4, m)
				alone(all("Move", v, n, m), w == none, e)
			}
			w, e := value.One(n, x, v)
			alone(all("One", n, x, v), w == none, e)
			w, e = value.Int(x, n)
			alone(all("Int", x, n), w == none, e)
		}
		for j, u := range values {
			w, e := value.Two(j%40, x, v, u)
			alone(all("Two", j%40, x, v, u), w == none, e)
			w, e = value.Apart(v, u, l[j%len(l)])
			alone(all("Apart", v, u), w == none, e)
			yes, e := value.Same(v, u, j%2 == 0, j%3 == 0)
			alone(all("Same", v, u), !yes, e)
			yes, e = value.Before(v, u)
			alone(all("Before", v, u), !yes, e)
		}
		w, e := value.Conv(x, everyType()[i%7], v)
		alone(all("Conv", x, v), w == none, e)
		yes, e := value.Truth(x, v)
		alone(all("Truth", x, v), !yes, e)
		b, e := value.Pack(x, v)
		alone(all("Pack", x, v), b == nil, e)
	}
}
