package lex

import (
	"strconv"
	"strings"

	"catapult/api"
)

// What numbers are: those of 32 bits, unsigned from some size on; characters' too.
const (
	unsigned      = "u"
	leastChar     = -128
	leastUnsigned = 1 << 31
	mostInt       = 1<<32 - 1
)

// isToken tells whether a token is such as is read.
func isToken(x api.Token) bool {
	if x.Kind == api.TokInt {
		return isNumber(x.Int, x.Text)
	}
	if x.Int != 0 {
		return false
	}
	switch x.Kind {
	case api.TokName:
		return IsName(x.Text)
	case api.TokKey:
		return IsKey(x.Text)
	case api.TokStr:
		return len(x.Text) <= api.MaxStr
	case api.TokMark:
		return isMark(x.Text)
	}
	return false
}

// isNumber tells whether a number has a size and a text such as are read.
func isNumber(n int, text string) bool {
	switch {
	case n < leastChar, n > mostInt:
		return false
	case n < 0:
		return text == ""
	case n >= leastUnsigned:
		return text == unsigned
	}
	return text == "" || text == unsigned
}

// writer is a text that is written token by token.
type writer struct{ strings.Builder }

// token puts a token.
func (w *writer) token(x api.Token) {
	switch x.Kind {
	case api.TokInt:
		w.number(x)
	case api.TokStr:
		w.quoted(x.Text, textQuote)
	default:
		w.WriteString(x.Text)
	}
}

// number puts a number; there are negative characters alone.
func (w *writer) number(x api.Token) {
	if x.Int < 0 {
		w.WriteString(Char(byte(x.Int)))
		return
	}
	w.WriteString(strconv.Itoa(x.Int))
	if x.Text == unsigned && x.Int < leastUnsigned {
		w.WriteString(unsigned)
	}
}

// quoted puts bytes, and quotes about them.
func (w *writer) quoted(s string, quote byte) {
	w.WriteByte(quote)
	for i := range len(s) {
		w.piece(s[i], quote)
	}
	w.WriteByte(quote)
}

// piece puts the piece that stands for a byte between these quotes.
func (w *writer) piece(c, quote byte) {
	const digits = "0123456789abcdef"
	switch {
	case isPlain(c, quote):
		w.WriteByte(c)
	case c == '\n':
		w.WriteString(`\n`)
	case c == '\t':
		w.WriteString(`\t`)
	case c == '\r':
		w.WriteString(`\r`)
	case c == escapes, c == quote:
		w.WriteByte(escapes)
		w.WriteByte(c)
	default:
		w.WriteString(`\x`)
		w.WriteByte(digits[c>>4])
		w.WriteByte(digits[c&15])
	}
}
