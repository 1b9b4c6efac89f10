package word_test

import (
	"fmt"
	"math"
	"slices"
	"strings"
	"testing"

	"catapult/word"
)

// few is some of the samples, for what is asked of three words.
func few() []uint32 {
	return []uint32{0, 1, 2, 7, 0xff, 0x8000, 0x10001, 0x7fffffff, 0x80000000, 0x80000001, 0xdeadbeef, 0xfffffff9, 0xfffffffe, 0xffffffff}
}

func sum(a, b uint32) uint32 { w, _ := word.Add(a, b); return w }

func less(a, b uint32) uint32 { w, _ := word.Sub(a, b); return w }

func times(a, b uint32) uint32 { w, _ := word.Mul(a, b); return w }

func timesS(a, b uint32) uint32 { w, _ := word.MulS(a, b); return w }

// 1.8: sums and products turn about, go over brackets, and products over sums.
func TestRing(t *testing.T) {
	for _, a := range few() {
		for _, b := range few() {
			for _, c := range few() {
				wrong := first(
					differ("sums over brackets", sum(sum(a, b), c), sum(a, sum(b, c))),
					differ("products over brackets", times(times(a, b), c), times(a, times(b, c))),
					differ("products over sums", times(a, sum(b, c)), sum(times(a, b), times(a, c))))
				if wrong != "" {
					t.Fatalf("%#x, %#x, %#x: %s", a, b, c, wrong)
				}
			}
		}
	}
	pairs(t, func(a, b uint32) string {
		return first(
			differ("sums turned about", sum(a, b), sum(b, a)),
			differ("products turned about", times(a, b), times(b, a)),
			differ("a difference", less(a, b), sum(a, less(0, b))),
			differ("what makes nought", sum(b, less(0, b)), 0),
			differ("products of both kinds", timesS(a, b), times(a, b)))
	})
}

// magnitude is how great a word's number is.
func magnitude(w uint32) int {
	n := word.Signed(w)
	return max(n, -n)
}

// 1.9: the quotient times the divisor and the rest is what was divided; the rest is smaller, of the sign of a.
func TestQuotientAndRest(t *testing.T) {
	pairs(t, func(a, b uint32) string {
		if b == 0 {
			return ""
		}
		quotient, rest, ok := word.Div(a, b)
		quotientU, restU, okU := word.DivU(a, b)
		return first(
			differ("it goes", []bool{ok, okU}, []bool{true, true}),
			differ("signed, put together", sum(times(b, quotient), rest), a),
			differ("from 0 on, put together", sum(times(b, quotientU), restU), a),
			differ("the rest is smaller", magnitude(rest) < magnitude(b), true),
			differ("the rest from 0 on is smaller", restU < b, true),
			differ("the rest's sign", rest == 0 || word.Lt(rest, 0) == word.Lt(a, 0), true))
	})
}

// 1.10: shifts are products and quotients by powers of two; a rotation back is none.
func TestShiftsArePowers(t *testing.T) {
	singles(t, func(a uint32) string {
		for n := range uint32(32) {
			power := word.Shl(1, n)
			quotient, _, _ := word.DivU(a, power)
			wrong := first(
				differ("Shl", word.Shl(a, n), times(a, power)),
				differ("ShrU", word.ShrU(a, n), quotient),
				differ("Shr", word.Signed(word.Shr(a, n)), int(math.Floor(float64(word.Signed(a))/float64(power)))),
				differ("there and back", word.Rotate(word.Rotate(a, n), 32-n), a))
			if wrong != "" {
				return fmt.Sprintf("by %d: %s", n, wrong)
			}
		}
		return ""
	})
}

// 1.10: Ext of Ext is Ext of the fewer bits.
func TestExtOfExt(t *testing.T) {
	singles(t, func(a uint32) string {
		for m := 1; m <= 32; m++ {
			for n := 1; n <= 32; n++ {
				inner, _ := word.Ext(a, m)
				outer, _ := word.Ext(inner, n)
				want, _ := word.Ext(a, min(m, n))
				if wrong := differ("Ext of Ext", outer, want); wrong != "" {
					return fmt.Sprintf("%d and %d bits: %s", m, n, wrong)
				}
				if word.Fits(word.Signed(a), n) != (word.Signed(a) == signedExt(a, n)) {
					return fmt.Sprintf("%d bits: what has room is what Ext keeps", n)
				}
			}
		}
		return ""
	})
}

// signedExt is the number of a word's lowest bits.
func signedExt(a uint32, bits int) int {
	w, _ := word.Ext(a, bits)
	return word.Signed(w)
}

// 1.10: both halves of a product are that of the whole.
func TestHalves(t *testing.T) {
	pairs(t, func(a, b uint32) string {
		low, high := word.Mul(a, b)
		lowS, highS := word.MulS(a, b)
		return first(
			differ("Mul", uint64(high)<<32|uint64(low), uint64(a)*uint64(b)),
			differ("MulS", int64(highS)<<32|int64(lowS), int64(word.Signed(a))*int64(word.Signed(b))))
	})
}

// answers is what all calls answer for two words, the second one also as a number of bits.
func answers(a, b uint32) string {
	bits := word.Signed(b)
	l := []string{
		fmt.Sprint(word.Of(int(a)), word.Signed(a), word.Lt(a, b), word.Fits(word.Signed(a), bits)),
		fmt.Sprint(word.Shl(a, b), word.Shr(a, b), word.ShrU(a, b), word.Rotate(a, b)),
		fmt.Sprint(word.Add(a, b)), fmt.Sprint(word.Sub(a, b)),
		fmt.Sprint(word.Mul(a, b)), fmt.Sprint(word.MulS(a, b)),
		fmt.Sprint(word.Div(a, b)), fmt.Sprint(word.DivU(a, b)),
		fmt.Sprint(word.Ext(a, bits)), fmt.Sprint(word.Zext(a, bits)),
		fmt.Sprint(word.Count(a)), fmt.Sprint(word.Bytes(a), word.Hex(a)),
		fmt.Sprint(word.From(word.Bytes(a))), fmt.Sprint(word.From(word.Bytes(a)[:a%4])),
		fmt.Sprint(word.Parse(word.Hex(a))), fmt.Sprint(word.Parse(word.Hex(a)[:b%10])),
	}
	return strings.Join(l, "; ")
}

// P1, R1, R5: every call answers, whatever it is handed, and the same in any order.
func TestAnswersHangOnArgumentsAlone(t *testing.T) {
	var there, back []string
	l := append(samples(), few()...)
	for i, a := range l {
		there = append(there, answers(a, l[(i*7)%len(l)]))
	}
	for i := len(l) - 1; i >= 0; i-- {
		back = append(back, answers(l[i], l[(i*7)%len(l)]))
	}
	slices.Reverse(back)
	for i := range there {
		same(t, "once more", back[i], there[i])
	}
}
