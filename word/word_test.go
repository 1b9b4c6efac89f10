package word_test

import (
	"fmt"
	"math"
	"math/big"
	"strings"
	"testing"

	"catapult/api"
	"catapult/word"
)

// samples is words at the edges, about the powers of two, and some in between, always the same.
func samples() []uint32 {
	l := []uint32{3, 7, 10, 0x1ff, 0xdeadbeef, 0x12345678, 0x55555555, 0xaaaaaaaa}
	for i := range 32 {
		p := uint32(1) << i
		l = append(l, p-1, p, p+1, -p)
	}
	next := uint32(2463534242)
	for range 40 {
		next = next*1664525 + 1013904223
		l = append(l, next, next>>(next>>27))
	}
	return l
}

// pairs calls f with all pairs of samples.
func pairs(t *testing.T, f func(a, b uint32) string) {
	t.Helper()
	l := samples()
	for _, a := range l {
		for _, b := range l {
			if wrong := f(a, b); wrong != "" {
				t.Fatalf("%#x and %#x: %s", a, b, wrong)
			}
		}
	}
}

// singles calls f with all samples.
func singles(t *testing.T, f func(a uint32) string) {
	t.Helper()
	for _, a := range samples() {
		if wrong := f(a); wrong != "" {
			t.Fatalf("%#x: %s", a, wrong)
		}
	}
}

// differ tells how an answer is another one than what is wanted; nothing, if it is the same.
func differ(what string, got, want any) string {
	if g, w := fmt.Sprint(got), fmt.Sprint(want); g != w {
		return what + ": " + g + ", want " + w
	}
	return ""
}

// first is the first text that is not empty.
func first(texts ...string) string {
	for _, s := range texts {
		if s != "" {
			return s
		}
	}
	return ""
}

// same fails where an answer is another one than what is wanted.
func same(t *testing.T, what string, got, want any) {
	t.Helper()
	if wrong := differ(what, got, want); wrong != "" {
		t.Error(wrong)
	}
}

// number is a word's number, by the document's words.
func number(w uint32) int64 {
	if w < 1<<31 {
		return int64(w)
	}
	return int64(w) - 1<<32
}

// lowest is the word of a whole number of any size.
func lowest(n *big.Int) uint32 {
	return uint32(new(big.Int).Mod(n, big.NewInt(1<<32)).Uint64())
}

// digitsOf is a word's 32 bits, the highest first.
func digitsOf(a uint32) string { return fmt.Sprintf("%032b", a) }

// ofDigits is the word of 32 bits, the highest first.
func ofDigits(s string) uint32 {
	n, ok := new(big.Int).SetString(s, 2)
	if !ok || len(s) != 32 {
		panic("not 32 bits: " + s)
	}
	return lowest(n)
}

// 1.1: the word of a number, the number of a word.
func TestOfAndSigned(t *testing.T) {
	const turn = 1 << 32
	cases := []struct {
		n    int
		want uint32
	}{
		{0, 0}, {1, 1}, {-1, 0xffffffff}, {-7, 0xfffffff9},
		{1<<31 - 1, 0x7fffffff}, {1 << 31, 0x80000000}, {-1 << 31, 0x80000000}, {-1<<31 - 1, 0x7fffffff},
		{turn - 1, 0xffffffff}, {turn, 0}, {turn + 5, 5}, {-turn, 0}, {-turn - 1, 0xffffffff}, {-turn + 1, 1},
		{math.MaxInt, 0xffffffff}, {math.MinInt, 0}, {math.MinInt + 3, 3},
	}
	for _, c := range cases {
		same(t, fmt.Sprint("Of ", c.n), word.Of(c.n), c.want)
	}
	same(t, "Signed of the least", word.Signed(0x80000000), -1<<31)
	same(t, "Signed of the greatest", word.Signed(0x7fffffff), 1<<31-1)
	singles(t, func(a uint32) string {
		n := int(number(a))
		return first(
			differ("Signed", word.Signed(a), n),
			differ("Of of the number", word.Of(n), a),
			differ("Of from 0 on", word.Of(int(a)), a),
			differ("Of, turns on", word.Of(n+7*turn), a),
			differ("Of, turns back", word.Of(n-9*turn), a))
	})
}

// 1.2: sums and differences, with carry and borrow.
func TestAddAndSub(t *testing.T) {
	pairs(t, func(a, b uint32) string {
		sum, carry := word.Add(a, b)
		difference, borrow := word.Sub(a, b)
		return first(
			differ("Add", sum, lowest(big.NewInt(int64(a)+int64(b)))),
			differ("carry", carry, int64(a)+int64(b) >= 1<<32),
			differ("Sub", difference, lowest(big.NewInt(int64(a)-int64(b)))),
			differ("borrow", borrow, a < b))
	})
}

// 1.2: both halves of products.
func TestMulAndMulS(t *testing.T) {
	pairs(t, func(a, b uint32) string {
		low, high := word.Mul(a, b)
		whole := new(big.Int).Mul(big.NewInt(int64(a)), big.NewInt(int64(b)))
		lowS, highS := word.MulS(a, b)
		wholeS := new(big.Int).Mul(big.NewInt(number(a)), big.NewInt(number(b)))
		return first(
			differ("Mul, low", low, lowest(whole)),
			differ("Mul, high", high, lowest(new(big.Int).Rsh(whole, 32))),
			differ("MulS, low", lowS, lowest(wholeS)),
			differ("MulS, high", highS, lowest(new(big.Int).Rsh(wholeS, 32))))
	})
}

// 1.3: quotients and rests of both kinds.
func TestDivAndDivU(t *testing.T) {
	pairs(t, func(a, b uint32) string {
		quotient, rest, ok := word.Div(a, b)
		quotientU, restU, okU := word.DivU(a, b)
		if b == 0 {
			return first(
				differ("Div by nought", []any{quotient, rest, ok}, []any{0, 0, false}),
				differ("DivU by nought", []any{quotientU, restU, okU}, []any{0, 0, false}))
		}
		q, r := new(big.Int).QuoRem(big.NewInt(number(a)), big.NewInt(number(b)), new(big.Int))
		qU, rU := new(big.Int).QuoRem(big.NewInt(int64(a)), big.NewInt(int64(b)), new(big.Int))
		return first(
			differ("Div", []any{quotient, rest, ok}, []any{lowest(q), lowest(r), true}),
			differ("DivU", []any{quotientU, restU, okU}, []any{lowest(qU), lowest(rU), true}))
	})
}

// 1.3: the document's examples.
func TestDivExamples(t *testing.T) {
	cases := []struct{ a, b, quotient, rest int }{
		{-1 << 31, -1, -1 << 31, 0}, {-7, 2, -3, -1}, {7, -2, -3, 1}, {-7, -2, 3, -1}, {7, 2, 3, 1},
		{-1 << 31, 1, -1 << 31, 0}, {-1 << 31, -1 << 31, 1, 0}, {5, -1 << 31, 0, 5}, {-1 << 31, 3, -715827882, -2},
	}
	for _, c := range cases {
		quotient, rest, ok := word.Div(word.Of(c.a), word.Of(c.b))
		got := []any{word.Signed(quotient), word.Signed(rest), ok}
		same(t, fmt.Sprintf("%d by %d", c.a, c.b), got, []any{c.quotient, c.rest, true})
	}
	quotient, rest, ok := word.DivU(0x80000000, 0xffffffff)
	same(t, "the same from 0 on", []any{quotient, rest, ok}, []any{0, 0x80000000, true})
}

// counts is by how much to shift: all, and what is beyond 31.
func counts() []uint32 {
	l := []uint32{32 * 1000003, 1 << 31, 1<<31 + 5, 0xffffffe0, 0xffffffff}
	for n := range uint32(100) {
		l = append(l, n)
	}
	return l
}

// 1.4: shifts and rotations, bit by bit.
func TestShifts(t *testing.T) {
	same(t, "Shr by 33", word.Shr(0x80000000, 33), 0xc0000000)
	singles(t, func(a uint32) string {
		s := digitsOf(a)
		for _, n := range counts() {
			k := int(n % 32)
			signs, noughts := strings.Repeat(s[:1], k), strings.Repeat("0", k)
			wrong := first(
				differ("Shl", word.Shl(a, n), ofDigits(s[k:]+noughts)),
				differ("Shr", word.Shr(a, n), ofDigits(signs+s[:32-k])),
				differ("ShrU", word.ShrU(a, n), ofDigits(noughts+s[:32-k])),
				differ("Rotate", word.Rotate(a, n), ofDigits(s[k:]+s[:k])))
			if wrong != "" {
				return fmt.Sprintf("by %d: %s", n, wrong)
			}
		}
		return ""
	})
}

// 1.4: less, by numbers.
func TestLt(t *testing.T) {
	same(t, "the least and nought", word.Lt(0x80000000, 0), true)
	same(t, "nought and the least", word.Lt(0, 0x80000000), false)
	same(t, "equal ones", word.Lt(5, 5), false)
	pairs(t, func(a, b uint32) string {
		return differ("Lt", word.Lt(a, b), number(a) < number(b))
	})
}

// badWidths is how many bits no part of a word has.
func badWidths() []int {
	return []int{0, -1, -31, -32, 33, 34, 63, 64, 65, 1 << 32, 1<<32 + 8, math.MinInt, math.MaxInt}
}

// 1.5: extensions, bit by bit, and widths that there are none.
func TestExtensions(t *testing.T) {
	singles(t, func(a uint32) string {
		s := digitsOf(a)
		for bits := 1; bits <= 32; bits++ {
			low := s[32-bits:]
			ext, e := word.Ext(a, bits)
			zext, eZ := word.Zext(a, bits)
			wrong := first(
				differ("Ext", []any{ext, e}, []any{ofDigits(strings.Repeat(low[:1], 32-bits) + low), api.OK}),
				differ("Zext", []any{zext, eZ}, []any{ofDigits(strings.Repeat("0", 32-bits) + low), api.OK}))
			if wrong != "" {
				return fmt.Sprintf("%d bits: %s", bits, wrong)
			}
		}
		for _, bits := range badWidths() {
			ext, e := word.Ext(a, bits)
			zext, eZ := word.Zext(a, bits)
			wrong := differ("refused", []any{ext, e, zext, eZ}, []any{0, api.ErrRange, 0, api.ErrRange})
			if wrong != "" {
				return fmt.Sprintf("%d bits: %s", bits, wrong)
			}
		}
		return ""
	})
}

// 1.5: what has room, at both edges of each width.
func TestFits(t *testing.T) {
	for bits := 1; bits <= 32; bits++ {
		half := 1 << (bits - 1)
		cases := []struct {
			n    int
			want bool
		}{
			{0, true}, {-1, true}, {half - 1, true}, {half, false}, {-half, true}, {-half - 1, false},
			{2 * half, false}, {-2 * half, false}, {1 << 32, false}, {-1 << 32, false}, {math.MaxInt, false}, {math.MinInt, false},
		}
		for _, c := range cases {
			same(t, fmt.Sprintf("%d in %d bits", c.n, bits), word.Fits(c.n, bits), c.want)
		}
	}
	for _, bits := range badWidths() {
		for _, n := range []int{0, 1, -1, math.MaxInt, math.MinInt} {
			same(t, fmt.Sprintf("%d in %d bits", n, bits), word.Fits(n, bits), false)
		}
	}
}

// 1.6: what is set, and the noughts at both ends.
func TestCount(t *testing.T) {
	check := func(a uint32) string {
		s := digitsOf(a)
		set, above, below := word.Count(a)
		want := []int{strings.Count(s, "1"), 32 - len(strings.TrimLeft(s, "0")), 32 - len(strings.TrimRight(s, "0"))}
		return differ("Count", []int{set, above, below}, want)
	}
	same(t, "of 0", check(0), "")
	same(t, "of 0x10", check(0x10), "")
	set, above, below := word.Count(0)
	same(t, "noughts of 0", []int{set, above, below}, []int{0, 32, 32})
	set, above, below = word.Count(0x10)
	same(t, "the example", []int{set, above, below}, []int{1, 27, 4})
	singles(t, check)
}
