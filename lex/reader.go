package lex

import (
	"strconv"
	"strings"

	"catapult/api"
)

// What comments begin and end with.
const (
	lineComment = "//"
	longComment = "/*"
	longEnd     = "*/"
)

// reader goes over the bytes of a text, from its front on.
type reader struct {
	text string
	at   int
}

// isOver tells whether all is read.
func (r *reader) isOver() bool { return r.at == len(r.text) }

// rest is what is not read yet.
func (r *reader) rest() string { return r.text[r.at:] }

// sees tells whether these bytes come next.
func (r *reader) sees(s string) bool { return strings.HasPrefix(r.rest(), s) }

// seesByte tells whether this byte comes next.
func (r *reader) seesByte(c byte) bool { return !r.isOver() && r.text[r.at] == c }

// blank reads blank, and tells whether all comments in it end; if not, it stops at the one that does not.
func (r *reader) blank() bool {
	for !r.isOver() {
		switch {
		case isBlank(r.text[r.at]):
			r.at++
		case r.sees(lineComment):
			line, _, _ := strings.Cut(r.rest(), lineFeed)
			r.at += len(line)
		case r.sees(longComment):
			within, _, ends := strings.Cut(r.rest()[len(longComment):], longEnd)
			if !ends {
				return false
			}
			r.at += len(longComment) + len(within) + len(longEnd)
		default:
			return true
		}
	}
	return true
}

// letters reads letters, digits and _ as far as they go on.
func (r *reader) letters() string {
	from := r.at
bytes:
	for !r.isOver() {
		switch c := r.text[r.at]; {
		case isLetter(c), isDigit(c):
			r.at++
		default:
			break bytes
		}
	}
	return r.text[from:r.at]
}

// pieces reads what stands in quotes, and these; at most so many pieces.
func (r *reader) pieces(quote byte, most int) ([]byte, api.Errno) {
	r.at++
	var l []byte
pieces:
	for {
		switch {
		case r.isOver(), r.sees(lineFeed):
			return nil, api.ErrEnd
		case r.seesByte(quote):
			break pieces
		}
		c, ok := r.piece(quote)
		switch {
		case !ok:
			return nil, api.ErrEscape
		case len(l) == most:
			return nil, api.ErrLong
		}
		l = append(l, c)
	}
	r.at++
	return l, api.OK
}

// piece reads the piece that comes next between these quotes: its byte, and whether it is one.
func (r *reader) piece(quote byte) (byte, bool) {
	c := r.text[r.at]
	r.at++
	if c == escapes {
		return r.escape()
	}
	return c, isPlain(c, quote)
}

// escape reads what stands behind the \ of a piece: the piece's byte, and whether it is one.
func (r *reader) escape() (byte, bool) {
	if r.isOver() {
		return 0, false
	}
	c := r.text[r.at]
	r.at++
	switch c {
	case 'n':
		return '\n', true
	case 't':
		return '\t', true
	case 'r':
		return '\r', true
	case '0':
		return 0, r.isOver() || !isDigit(r.text[r.at])
	case escapes, charQuote, textQuote:
		return c, true
	case 'x':
		return r.pair()
	}
	return 0, false
}

// pair reads two digits to the base 16: their byte, and whether they are there.
func (r *reader) pair() (byte, bool) {
	digits := r.rest()
	if len(digits) < 2 {
		return 0, false
	}
	n, err := strconv.ParseUint(digits[:2], 16, 8)
	r.at += 2
	return byte(n), err == nil
}
