// Package word is layer 1: 32-bit words: arithmetic, shifts, extensions. See shared/doc/01-word.md.
package word

import "catapult/api"

// width is how many bits a word has.
const width = 32

// Of is the word of a number, modulo 1 << 32.
func Of(n int) uint32 { return uint32(n) }

// Signed is the number of a word.
func Signed(w uint32) int { return int(int32(w)) }

// Add is the sum of two words, and whether there was a carry.
func Add(a, b uint32) (uint32, bool) {
	sum := a + b
	return sum, sum < a // a sum that was cut is less than each of its parts
}

// Sub is the difference of two words, and whether there was a borrow.
func Sub(a, b uint32) (uint32, bool) { return a - b, a < b }

// Mul is the lower and the upper word of the product of two words from 0 on.
func Mul(a, b uint32) (uint32, uint32) {
	return halves(uint64(a) * uint64(b))
}

// MulS is the lower and the upper word of the product of two words' numbers.
func MulS(a, b uint32) (uint32, uint32) {
	return halves(uint64(int64(int32(a)) * int64(int32(b))))
}

// halves cuts a product in its lower and its upper word.
func halves(product uint64) (uint32, uint32) {
	return uint32(product), uint32(product >> width)
}

// Div is the quotient, towards nought, and the rest of two words' numbers; false by nought.
func Div(a, b uint32) (uint32, uint32, bool) { return divide(a, b, true) }

// DivU is the quotient and the rest of two words from 0 on; false by nought.
func DivU(a, b uint32) (uint32, uint32, bool) { return divide(a, b, false) }

// divide is the one way of both kinds: the signs are taken off ahead, and put on behind.
// So the least number by -1 needs no care: without its sign it is the same word.
func divide(a, b uint32, signed bool) (uint32, uint32, bool) {
	var minusQuotient, minusRest bool
	switch {
	case b == 0:
		return 0, 0, false
	case signed:
		minusQuotient, minusRest = negative(a) != negative(b), negative(a)
		a, b = minusIf(negative(a), a), minusIf(negative(b), b)
		fallthrough
	default:
		return minusIf(minusQuotient, a/b), minusIf(minusRest, a%b), true
	}
}

// negative tells whether a word's number is below nought.
func negative(a uint32) bool { return a>>(width-1) == 1 }

// minusIf is a word, its sign turned if minus is so.
func minusIf(minus bool, a uint32) uint32 {
	if minus {
		return -a
	}
	return a
}

// Shl is a word shifted to the left, by n modulo 32.
func Shl(a, n uint32) uint32 { return a << (n % width) }

// Shr is a word shifted to the right with its sign, by n modulo 32.
func Shr(a, n uint32) uint32 { return uint32(int32(a) >> (n % width)) }

// ShrU is a word shifted to the right with noughts, by n modulo 32.
func ShrU(a, n uint32) uint32 { return a >> (n % width) }

// Rotate is a word shifted to the left, by n modulo 32, what falls out coming in again.
func Rotate(a, n uint32) uint32 {
	n %= width
	return a<<n | a>>(width-n) // by 32 to the right there is nothing left, so n may be 0
}

// Lt tells whether a's number is less than b's.
func Lt(a, b uint32) bool { return int32(a) < int32(b) }

// Ext is the lowest bits of a word, above them the highest one of these.
func Ext(a uint32, bits int) (uint32, api.Errno) {
	if !isWidth(bits) {
		return 0, api.ErrRange
	}
	above := width - bits
	return uint32(int32(a<<above) >> above), api.OK
}

// Zext is the lowest bits of a word, above them noughts.
func Zext(a uint32, bits int) (uint32, api.Errno) {
	if !isWidth(bits) {
		return 0, api.ErrRange
	}
	above := width - bits
	return a << above >> above, api.OK
}

// Fits tells whether a number has room in so many bits, with its sign.
func Fits(n, bits int) bool {
	if !isWidth(bits) {
		return false
	}
	half := 1 << (bits - 1)
	return -half <= n && n <= half-1
}

// isWidth tells whether a word has a part of so many bits.
func isWidth(bits int) bool { return 1 <= bits && bits <= width }

// Count is how many bits of a word are set, and how many noughts stand above the highest and below the lowest of these.
func Count(a uint32) (int, int, int) {
	set, above, below := 0, width, width
	for i := range width {
		if a>>i&1 == 0 {
			continue
		}
		if set == 0 {
			below = i
		}
		set++
		above = width - 1 - i
	}
	return set, above, below
}
