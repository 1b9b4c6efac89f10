package value_test

import (
	"math"
	"testing"

	"catapult/api"
	"catapult/value"
)

// chance is numbers that hang on the first one alone.
type chance uint32

func (c *chance) next() uint32 {
	*c = *c*1664525 + 1013904223
	return uint32(*c) >> 8
}

// below is a number from 0 to n - 1.
func (c *chance) below(n int) int { return int(c.next()) % n }

// one is a member of a list.
func one[T any](c *chance, l ...T) T { return l[c.below(len(l))] }

// someType is a type, most often an integer type.
func (c *chance) someType() api.Type {
	return one(c, one(c, wholes...), one(c, wholes...), one(c, wholes[2:]...), one(c, places...), one(c, functions...), one(c, strange[:len(strange)-1]...))
}

// someNumber is a number, most often about the edges of a type, or small.
func (c *chance) someNumber() int {
	edge := one(c, 0, 0, 0, 1<<7, 1<<8, 1<<15, 1<<16, 1<<31, 1<<32)
	n := one(c, edge+c.below(5)-2, -edge+c.below(5)-2, c.below(1<<24)<<c.below(10), -c.below(1<<24)<<c.below(9), c.below(70)-35)
	if c.below(40) == 0 {
		n = one(c, math.MaxInt, math.MinInt, 1<<40, -1<<40, c.below(1<<24)<<40)
	}
	return n
}

// someWhole is a number as a type has it.
func (c *chance) someWhole(t api.Type) api.Value { return plainNumber(t, whole(c.someNumber())) }

// somePointer is a pointer, most often into one of few blocks.
func (c *chance) somePointer() api.Value {
	off := one(c, 0, 4, 8, c.below(100), c.below(65537))
	if c.below(10) == 0 {
		off = max(c.someNumber(), -2)
	}
	return one(c, at(c.below(3), off), at(1, off), at(1, off), null, fun(c.below(3)))
}

// some is a value, most often one that a type has.
func (c *chance) some(t api.Type) api.Value {
	switch {
	case c.below(16) == 0:
		return none
	case c.below(16) == 0:
		return one(c, wrong...)
	case isWhole(t) && c.below(10) > 0:
		return c.someWhole(t)
	case c.below(10) == 0:
		return num(c.someNumber())
	}
	return c.somePointer()
}

// numbers makes a call of what numbers have, and of its reckoning, and tells the answers.
func (c *chance) numbers() (what, got, want string) {
	t, to := c.someType(), c.someType()
	v := c.some(t)
	switch c.below(7) {
	case 0:
		return all("Of", t, v), all(value.Of(t, v)), all(plainOf(t, v))
	case 1:
		n := c.someNumber()
		return all("Int", t, n), all(value.Int(t, n)), all(plainInt(t, n))
	case 2:
		return all("Conv", t, to, v), all(value.Conv(t, to, v)), all(plainConv(t, to, v))
	case 3:
		return all("Truth", t, v), all(value.Truth(t, v)), all(plainTruth(t, v))
	case 4:
		return all("Pack", t, v), all(value.Pack(t, v)), all(plainPack(t, v))
	case 5:
		b := []byte{byte(c.below(256)), byte(c.below(256)), byte(c.below(256)), byte(one(c, 0, 127, 128, 255, c.below(256))), 0}[:one(c, 1, 2, 4, 4, c.below(6))]
		return all("Unpack", t, b), all(value.Unpack(t, b)), all(plainUnpack(t, b))
	}
	kind := one(c, api.KNeg, api.KCompl, api.KNot, api.KNot, c.below(60)-2)
	return all("One", kind, t, v), all(value.One(kind, t, v)), all(plainOne(kind, t, v))
}

// two makes a call of an operation on two values.
func (c *chance) two() (what, got, want string) {
	t := one(c, one(c, wholes[2:]...), one(c, wholes[2:]...), c.someType())
	kind := one(c, one(c, pairs...), one(c, pairs...), one(c, pairs...), one(c, pairs...), c.below(60)-2)
	a, b := c.some(t), c.some(t)
	if kind == api.KShl || kind == api.KShr {
		b = c.some("i")
	}
	if c.below(6) == 0 {
		b = a
	}
	return all("Two", kind, t, a, b), all(value.Two(kind, t, a, b)), all(plainTwo(kind, t, a, b))
}

// pointers makes a call of what pointers have.
func (c *chance) pointers() (what, got, want string) {
	a, b := c.some("pi"), c.some("pi")
	n, unit, size := one(c, c.below(20)-10, c.someNumber(), -c.below(1<<16)), one(c, 1, 2, 4, 4, 8, c.below(100), c.below(65537), 0, -1, 65536, 65537), one(c, 8, 64, 100, c.below(65537), 65536, 65536, 65537, -1, 0)
	switch c.below(4) {
	case 0:
		return all("Move", a, n, unit, size), all(value.Move(a, n, unit, size)), all(plainMove(a, n, unit, size))
	case 1:
		return all("Apart", a, b, unit), all(value.Apart(a, b, unit)), all(plainApart(a, b, unit))
	case 2:
		return all("Before", a, b), all(value.Before(a, b)), all(plainBefore(a, b))
	}
	in := one(c, append(facts, []bool{true, true})...)
	return all("Same", a, b, in), all(value.Same(a, b, in...)), all(plainSame(a, b, in...))
}

// 15.1 to 15.5: over many calls, each answer is that of the plainest reckoning.
func TestManyCalls(t *testing.T) {
	c := chance(15)
	for i := range 300000 {
		if what, got, want := one(&c, c.numbers, c.two, c.pointers)(); got != want {
			t.Fatalf("call %d, %s: %s, want %s", i, what, got, want)
		}
	}
}

// edges is numbers about the edges of the integer types.
func edges() []int {
	var l []int
	for _, n := range []int{0, 1 << 7, 1 << 8, 1 << 15, 1 << 16, 1 << 30, 1 << 31, 1 << 32} {
		for d := -2; d <= 2; d++ {
			l = append(l, n+d, -n+d)
		}
	}
	return append(l, 3, 7, 10, -7, 31, 33, 63, 64, 65, -31, -33, 0x12345678, -0x12345678, 0x89abcdef, 46341, 65521, math.MaxInt, math.MinInt)
}

// 15.1 to 15.3, 15.5: at all edges, in all types, by all operations.
func TestEdges(t *testing.T) {
	for _, x := range wholes {
		for _, a := range edges() {
			same(t, all("Of", x, a), value.Of(x, num(a)), plainOf(x, num(a)))
			same(t, all("Int", x, a), all(value.Int(x, a)), all(plainInt(x, a)))
			same(t, all("Truth", x, a), all(value.Truth(x, num(a))), all(plainTruth(x, num(a))))
			same(t, all("Pack", x, a), all(value.Pack(x, num(a))), all(plainPack(x, num(a))))
			for kind := api.KNeg; kind <= api.KNot; kind++ {
				same(t, all("One", kind, x, a), all(value.One(kind, x, num(a))), all(plainOne(kind, x, num(a))))
			}
			for _, to := range wholes {
				same(t, all("Conv", x, to, a), all(value.Conv(x, to, num(a))), all(plainConv(x, to, num(a))))
			}
		}
	}
	for _, x := range []api.Type{"i", "u"} {
		for _, a := range edges() {
			for _, b := range edges() {
				for _, kind := range pairs {
					got, e := value.Two(kind, x, num(a), num(b))
					want, wantE := plainTwo(kind, x, num(a), num(b))
					if got != want || e != wantE {
						t.Fatalf("Two of %d, %s, %d, %d: %v, %v, want %v, %v", kind, x, a, b, got, e, want, wantE)
					}
				}
			}
		}
	}
}

// 15.4: Move, Apart and Before at all places of small blocks, and beyond.
func TestSmallBlocks(t *testing.T) {
	for off := range 14 {
		for size := range 12 {
			for unit := range 6 {
				for n := -16; n <= 16; n++ {
					same(t, all("Move", off, n, unit, size), all(value.Move(at(1, off), n, unit, size)), all(plainMove(at(1, off), n, unit, size)))
				}
				same(t, all("Apart", off, size, unit), all(value.Apart(at(1, off), at(1, size), unit)), all(plainApart(at(1, off), at(1, size), unit)))
			}
			same(t, all("Before", off, size), all(value.Before(at(1, off), at(1, size))), all(plainBefore(at(1, off), at(1, size))))
		}
	}
}
