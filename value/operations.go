package value

import (
	"catapult/api"
	"catapult/word"
)

// name is what an operation goes by: the kind of its nodes in a core tree.
type name struct{ kind int }

// is tells whether an operation goes by a kind.
func (n name) is(kind int) bool { return n.kind == kind }

// single is the row of an operation on one value: whether it may be of any scalar type (then 1 or 0 comes of it), and what comes of it.
type single struct {
	name
	ofAny  bool
	reckon func(v api.Value) int
}

// singleOf is the row of an operation on one value; false, if there is none of that kind.
func singleOf(kind int) (single, bool) {
	for _, o := range [...]single{
		{name{api.KNeg}, false, func(v api.Value) int { return -v.Int }},
		{name{api.KCompl}, false, func(v api.Value) int { return ^v.Int }},
		{name{api.KNot}, true, func(v api.Value) int { return int(bit(isNought(v))) }},
	} {
		if o.is(kind) {
			return o, true
		}
	}
	return single{}, false
}

// answers is the type of what comes of an operation on a value of a type.
func (o single) answers(t api.Type) api.Type {
	if o.ofAny {
		return signed
	}
	return t
}

// Forms of operations on two values of a type.
const (
	plain    = iota
	dividing // the second one may not be 0
	counting // the second one is a count, of type i
)

// pair is the row of an operation on two values: its form, and what comes of the words of two numbers, with their signs and from 0 on.
type pair struct {
	name
	form     int
	ofI, ofU func(a, b uint32) uint32
}

// pairOf is the row of an operation on two values; false, if there is none of that kind.
func pairOf(kind int) (pair, bool) {
	for _, o := range [...]pair{
		{name{api.KAdd}, plain, sum, sum},
		{name{api.KSub}, plain, difference, difference},
		{name{api.KMul}, plain, product, product},
		{name{api.KDiv}, dividing, quotient, quotientU},
		{name{api.KRem}, dividing, rest, restU},
		{name{api.KAnd}, plain, and, and},
		{name{api.KOr}, plain, or, or},
		{name{api.KXor}, plain, xor, xor},
		{name{api.KShl}, counting, word.Shl, word.Shl},
		{name{api.KShr}, counting, word.Shr, word.ShrU},
		{name{api.KLt}, plain, below, belowU},
		{name{api.KLe}, plain, upTo, upToU},
		{name{api.KEq}, plain, equal, equal},
		{name{api.KNe}, plain, unequal, unequal},
	} {
		if o.is(kind) {
			return o, true
		}
	}
	return pair{}, false
}

// second is the type of the second operand, where the first one is of a type.
func (o pair) second(t api.Type) api.Type {
	if o.form == counting {
		return signed
	}
	return t
}

// reckon is what comes of the operation on the words of two numbers of a type.
func (o pair) reckon(t api.Type, a, b uint32) uint32 {
	if t == unsigned {
		return o.ofU(a, b)
	}
	return o.ofI(a, b)
}
