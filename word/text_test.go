package word_test

import (
	"fmt"
	"regexp"
	"strings"
	"testing"

	"catapult/api"
	"catapult/word"
)

// 1.6: bytes, the lowest first, and back.
func TestBytesAndFrom(t *testing.T) {
	same(t, "the lowest first", word.Bytes(0x04030201), []byte{1, 2, 3, 4})
	singles(t, func(a uint32) string {
		b := word.Bytes(a)
		want := []byte{byte(a % 256), byte(a / 256 % 256), byte(a / 65536 % 256), byte(a / 16777216)}
		back, e := word.From(b)
		return first(
			differ("Bytes", b, want),
			differ("From", []any{back, e}, []any{a, api.OK}))
	})
	for _, n := range []int{0, 1, 2, 3, 5, 7, 8, 4 + 256, 1 << 16} {
		b := make([]byte, n)
		for i := range b {
			b[i] = 0xa5
		}
		w, e := word.From(b)
		same(t, fmt.Sprint(n, " bytes"), []any{w, e}, []any{0, api.ErrLong})
	}
	w, e := word.From(nil)
	same(t, "no list", []any{w, e}, []any{0, api.ErrLong})
}

// 1.6, R4: what is handed in stays, what is answered is new.
func TestBytesAreTheirOwn(t *testing.T) {
	one, other := word.Bytes(0x04030201), word.Bytes(0x04030201)
	one[0], one[3] = 99, 99
	same(t, "the other answer", other, []byte{1, 2, 3, 4})
	same(t, "a later answer", word.Bytes(0x04030201), []byte{1, 2, 3, 4})
	grown := append(other[:2], 77)
	same(t, "an answer behind one that was grown", word.Bytes(0x04030201), []byte{1, 2, 3, 4})
	same(t, "what was grown", grown, []byte{1, 2, 77})

	whole := []byte{9, 1, 2, 3, 4, 9}
	w, _ := word.From(whole[1:5])
	same(t, "what was handed in", whole, []byte{9, 1, 2, 3, 4, 9})
	whole[1] = 55
	again, _ := word.From(whole[1:5])
	same(t, "From of what was written over", []any{w, again}, []any{0x04030201, 0x04030237})
}

// 1.7: words as texts, and back.
func TestHexAndParse(t *testing.T) {
	same(t, "Hex of 10", word.Hex(10), "0x0000000a")
	same(t, "Hex of 0", word.Hex(0), "0x00000000")
	same(t, "Hex of the greatest", word.Hex(0xffffffff), "0xffffffff")
	same(t, "all digits", word.Hex(0x01234567)+word.Hex(0x89abcdef), "0x012345670x89abcdef")
	singles(t, func(a uint32) string {
		back, e := word.Parse(word.Hex(a))
		return first(
			differ("Hex", word.Hex(a), fmt.Sprintf("0x%08x", a)),
			differ("Parse", []any{back, e}, []any{a, api.OK}))
	})
}

// 1.7: texts that are of no word.
func TestParseRefuses(t *testing.T) {
	texts := []string{
		"", "0", "0x", "x", "0x0", "0xa", "10", "00000000", "0x0000000", "0x000000000", "0x00000000a",
		"0X0000000a", "0x0000000A", "0xDEADBEEF", "0xdeadbeeF", "0x0000000g", "1x00000000", "0y00000000", "x000000000",
		"0x_000000a", "0x0000_000", "0x+000000a", "0x-000000a", "0x 000000a", " 0x0000000a", "0x0000000a ", "0x0000000a\n", "0x000000a\n",
		"0x0000000\x00", "0x0000000a\x00", "0x0x00000a", "000x0000000a", "\"0x0000000a\"", "0xdead.beef", "0x0000000é", "0x000000é",
		"0x٠٠٠٠", "0x٠٠٠٠٠٠٠٠", "０x0000000a", "0x" + strings.Repeat("0", 1<<16), strings.Repeat("\xff", 10),
	}
	for _, s := range texts {
		w, e := word.Parse(s)
		same(t, fmt.Sprintf("Parse of %.20q", s), []any{w, e}, []any{0, api.ErrForm})
	}
}

// 1.7: each byte in each place makes a word's text, or none.
func TestParseByteByByte(t *testing.T) {
	form := regexp.MustCompile(`^0x[0-9a-f]{8}$`)
	for place := range 10 {
		for c := range 256 {
			b := []byte("0x7b20c4e9")
			b[place] = byte(c)
			s := string(b)
			w, e := word.Parse(s)
			if form.MatchString(s) {
				same(t, fmt.Sprintf("Parse of %q", s), []any{word.Hex(w), e}, []any{s, api.OK})
			} else {
				same(t, fmt.Sprintf("Parse of %q", s), []any{w, e}, []any{0, api.ErrForm})
			}
		}
	}
}
