package block

import (
	"slices"
	"strings"

	"catapult/api"
	"catapult/types"
)

// wordBytes is how many bytes a word has, and a pointer.
const wordBytes = 4

// width is how many bytes a scalar type has, on multiples of which it stands; 0 of what is no scalar type.
func width(t api.Type) int {
	// Integer types come most often, and are told apart without taking a type apart.
	switch t {
	case "c":
		return 1
	case "s":
		return 2
	case "i", "u":
		return wordBytes
	}
	if types.IsScalar(t) {
		return wordBytes
	}
	return 0
}

// number is the number of an integer type that 32 bits stand for.
func number(t api.Type, bits uint32) int {
	switch t {
	case "c":
		return int(int8(bits))
	case "s":
		return int(int16(bits))
	case "i":
		return int(int32(bits))
	}
	return int(bits)
}

// isPointer tells whether a scalar type is a pointer's.
func isPointer(t api.Type) bool { return strings.HasPrefix(string(t), "p") }

// fits tells whether a value may be one of a scalar type.
func fits(t api.Type, v api.Value) bool {
	switch v.Kind {
	case api.VInt:
		return !isPointer(t) && v.Off == 0 && number(t, uint32(v.Int)) == v.Int
	case api.VPtr:
		return isPointer(t)
	case api.VNull:
		return isPointer(t) && v.Int == 0 && v.Off == 0
	case api.VFunc:
		return isPointer(t) && v.Off == 0
	}
	return false
}

// digit is the byte of a number from 0 to 255.
func digit(n int) api.Byte { return api.Byte{Kind: api.BNum, N: n} }

// pointed is the piece n of a pointer.
func pointed(v api.Value, n int) api.Byte { return api.Byte{Kind: api.BPtr, N: n, V: v} }

// saved is the piece n of a context.
func saved(c, n int) api.Byte { return api.Byte{Kind: api.BSet, N: n, C: c} }

// pieces is the n bytes that stand for a value.
func pieces(v api.Value, n int) []api.Byte {
	l := make([]api.Byte, n)
	for i := range l {
		if v.Kind == api.VInt {
			l[i] = digit(v.Int >> (8 * i) & 0xff)
		} else {
			l[i] = pointed(v, i)
		}
	}
	return l
}

// digits is the bytes of a text, as numbers.
func digits(text string) []api.Byte {
	l := make([]api.Byte, len(text))
	for i := range l {
		l[i] = digit(int(text[i]))
	}
	return l
}

// contextPieces is the bytes of a context.
func contextPieces(c int) []api.Byte {
	l := make([]api.Byte, api.JmpBytes)
	for i := range l {
		l[i] = saved(c, i)
	}
	return l
}

// value is what bytes stand for as a value of a scalar type.
func value(t api.Type, l []api.Byte) (api.Value, api.Errno) {
	if slices.Contains(l, api.Byte{}) {
		return api.Value{}, api.ErrHole
	}
	if isPointer(t) {
		return pointer(l)
	}
	bits := uint32(0)
	for i, x := range l {
		if x.Kind != api.BNum {
			return api.Value{}, api.ErrPieces
		}
		bits |= uint32(x.N) << (8 * i)
	}
	return api.Value{Kind: api.VInt, Int: number(t, bits)}, api.OK
}

// pointer is the pointer whose pieces these are.
func pointer(l []api.Byte) (api.Value, api.Errno) {
	v := l[0].V
	for i, x := range l {
		if x != pointed(v, i) {
			return api.Value{}, api.ErrPieces
		}
	}
	return v, api.OK
}

// context is the context whose pieces these are.
func context(l []api.Byte) (int, api.Errno) {
	if slices.Contains(l, api.Byte{}) {
		return 0, api.ErrHole
	}
	c := l[0].C
	for i, x := range l {
		if x != saved(c, i) {
			return 0, api.ErrPieces
		}
	}
	return c, api.OK
}
