package word

import "catapult/api"

// What a word's text is made of.
const (
	prefix = "0x"
	digits = "0123456789abcdef"
	places = 8 // digits of a word
)

// Bytes is the four bytes of a word, the lowest first.
func Bytes(a uint32) []byte {
	return []byte{byte(a), byte(a >> 8), byte(a >> 16), byte(a >> 24)}
}

// From is the word of four bytes, the lowest first.
func From(b []byte) (uint32, api.Errno) {
	if len(b) != 4 {
		return 0, api.ErrLong
	}
	return uint32(b[0]) | uint32(b[1])<<8 | uint32(b[2])<<16 | uint32(b[3])<<24, api.OK
}

// Hex is a word's text.
func Hex(a uint32) string {
	var text [places]byte
	for i := range places {
		text[places-1-i] = digits[a>>(4*i)&15]
	}
	return prefix + string(text[:])
}

// Parse is the word of a text.
func Parse(s string) (uint32, api.Errno) {
	if len(s) != len(prefix)+places || s[:len(prefix)] != prefix {
		return 0, api.ErrForm
	}
	word := uint32(0)
	for i := len(prefix); i < len(s); i++ {
		digit, ok := digitOf(s[i])
		if !ok {
			return 0, api.ErrForm
		}
		word = word<<4 | digit
	}
	return word, api.OK
}

// digitOf is what a digit counts. Great letters are none: each word has one text alone.
func digitOf(c byte) (uint32, bool) {
	switch {
	case '0' <= c && c <= '9':
		return uint32(c - '0'), true
	case 'a' <= c && c <= 'f':
		return uint32(c-'a') + 10, true
	}
	return 0, false
}
