package value_test

import (
	"slices"
	"testing"

	"catapult/api"
	"catapult/value"
)

// 15.5: Pack and Unpack of numbers.
func TestPackAndUnpack(t *testing.T) {
	for _, x := range []struct {
		t api.Type
		n int
		b []byte
	}{
		{"c", 0, []byte{0}}, {"c", 1, []byte{1}}, {"c", 127, []byte{127}}, {"c", -128, []byte{128}}, {"c", -1, []byte{255}},
		{"s", 0, []byte{0, 0}}, {"s", 258, []byte{2, 1}}, {"s", 32767, []byte{255, 127}}, {"s", -32768, []byte{0, 128}}, {"s", -2, []byte{254, 255}}, {"s", 128, []byte{128, 0}},
		{"i", 0, []byte{0, 0, 0, 0}}, {"i", 0x01020304, []byte{4, 3, 2, 1}}, {"i", greatest, []byte{255, 255, 255, 127}}, {"i", least, []byte{0, 0, 0, 128}}, {"i", -2, []byte{254, 255, 255, 255}}, {"i", 0x8080, []byte{128, 128, 0, 0}},
		{"u", 0, []byte{0, 0, 0, 0}}, {"u", 0xf1020304, []byte{4, 3, 2, 0xf1}}, {"u", most, []byte{255, 255, 255, 255}}, {"u", 1 << 31, []byte{0, 0, 0, 128}}, {"u", 255, []byte{255, 0, 0, 0}},
	} {
		same(t, all("Pack", x.t, x.n), all(value.Pack(x.t, num(x.n))), all(x.b, api.OK))
		same(t, all("Unpack", x.t, x.b), all(value.Unpack(x.t, x.b)), all(num(x.n), api.OK))
	}
}

// 15.5: what is wrong with what Pack is handed.
func TestPackRefused(t *testing.T) {
	refused := func(x api.Type, v api.Value, e api.Errno) {
		t.Helper()
		b, told := value.Pack(x, v)
		same(t, all("Pack", x, v), all(b == nil, told), all(true, e))
	}
	for _, x := range slices.Concat(places, functions, strange) {
		for _, v := range []api.Value{none, null, at(1, 0), fun(0), num(0)} {
			refused(x, v, api.ErrShape)
		}
	}
	for _, x := range wholes {
		refused(x, none, api.ErrUnset)
		for _, v := range append([]api.Value{null, at(1, 0), fun(0)}, wrong...) {
			refused(x, v, api.ErrShape)
		}
	}
	refused("c", num(128), api.ErrShape)
	refused("s", num(-32769), api.ErrShape)
	refused("i", num(1<<31), api.ErrShape)
	refused("u", num(-1), api.ErrShape)
}

// 15.5: what is wrong with what Unpack is handed: a type that is none here ahead of how many bytes there are.
func TestUnpackRefused(t *testing.T) {
	widths := []int{1, 2, 4, 4}
	for n := range 10 {
		b := make([]byte, n)
		for _, x := range slices.Concat(places, functions, strange) {
			same(t, all("Unpack", x, b), all(value.Unpack(x, b)), all(none, api.ErrShape))
		}
		for i, x := range wholes {
			want := all(none, api.ErrLong)
			if n == widths[i] {
				want = all(num(0), api.OK)
			}
			same(t, all("Unpack", x, b), all(value.Unpack(x, b)), want)
		}
	}
	same(t, "Unpack of none", all(value.Unpack("c", nil)), all(none, api.ErrLong))
	same(t, "Unpack of none", all(value.Unpack("pc", nil)), all(none, api.ErrShape))
	same(t, "Unpack of many", all(value.Unpack("i", make([]byte, 1<<20))), all(none, api.ErrLong))
}
