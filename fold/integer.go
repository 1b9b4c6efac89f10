package fold

import (
	"catapult/api"
	"catapult/types"
	"catapult/word"
)

// integer is an integer type; none is that of what has no number.
type integer api.Type

// The integer types.
const (
	none     integer = ""
	char     integer = "c"
	short    integer = "s"
	signed   integer = "i"
	unsigned integer = "u"
)

// The bits of the small ones.
const (
	charBits  = 8
	shortBits = 16
)

// number is a word's lowest bits as a number of the type.
func (t integer) number(w uint32) int {
	switch t {
	case unsigned:
		return int(w)
	case char:
		w, _ = word.Ext(w, charBits)
	case short:
		w, _ = word.Ext(w, shortBits)
	}
	return word.Signed(w)
}

// result is a word as a value of the type; of what was divided by nought, the type alone.
func (t integer) result(w uint32, byNought bool) value {
	if byNought {
		return value{integer: t, byNought: true}
	}
	return value{integer: t, n: t.number(w)}
}

// of is a number as a value of the type.
func (t integer) of(n int) value { return t.result(word.Of(n), false) }

// promoted is what becomes of the type in an operation.
func (t integer) promoted() integer {
	p, _ := types.Promote(api.Type(t)) // of an integer type there is no error
	return integer(p)
}

// meet is the type in which two types meet.
func (t integer) meet(other integer) integer {
	c, _ := types.Common(api.Type(t), api.Type(other)) // of integer types there is no error
	return integer(c)
}

// divide is the quotient and the rest of two words of the type; false by nought.
func (t integer) divide(a, b uint32) (uint32, uint32, bool) {
	if t == unsigned {
		return word.DivU(a, b)
	}
	return word.Div(a, b)
}

// shift is a word of the type shifted by a count modulo 32.
func (t integer) shift(mark string, a, count uint32) uint32 {
	switch {
	case mark == "<<":
		return word.Shl(a, count)
	case t == unsigned:
		return word.ShrU(a, count)
	}
	return word.Shr(a, count)
}
