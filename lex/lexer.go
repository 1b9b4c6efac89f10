package lex

import (
	"strconv"
	"strings"

	"catapult/api"
)

// lexer is tokens that are read from a text.
type lexer struct {
	reader
	from   int // where that begins which is read, or is wrong
	tokens []api.Token
}

// all reads all tokens.
func (l *lexer) all() api.Errno {
	for {
		if e := l.skip(); e != api.OK || l.isOver() {
			return e
		}
		if len(l.tokens) == MaxTokens {
			return api.ErrLong
		}
		x, e := l.token()
		if e != api.OK {
			return e
		}
		l.tokens = append(l.tokens, x)
	}
}

// skip reads blank up to where something begins: a token, or a comment without an end.
func (l *lexer) skip() api.Errno {
	ends := l.blank()
	l.from = l.at
	if !ends {
		return api.ErrEnd
	}
	return api.OK
}

// token reads the token that comes next.
func (l *lexer) token() (api.Token, api.Errno) {
	switch c := l.text[l.at]; {
	case isLetter(c):
		return l.word()
	case isDigit(c):
		return l.number()
	case c == charQuote:
		return l.character()
	case c == textQuote:
		return l.texts()
	}
	return l.mark()
}

// word reads a keyword or a name.
func (l *lexer) word() (api.Token, api.Errno) {
	word := l.letters()
	switch {
	case IsKey(word):
		return api.Token{Kind: api.TokKey, At: l.from, Text: word}, api.OK
	case len(word) > api.MaxName:
		return api.Token{}, api.ErrLong
	}
	return api.Token{Kind: api.TokName, At: l.from, Text: word}, api.OK
}

// number reads a number.
func (l *lexer) number() (api.Token, api.Errno) {
	number := l.letters()
	digits := strings.TrimRight(number, "uU")
	n, ok := sizeOf(digits)
	if !ok || len(number)-len(digits) > 1 {
		return api.Token{}, api.ErrNumber
	}
	x := api.Token{Kind: api.TokInt, At: l.from, Int: n}
	if n >= leastUnsigned || digits != number {
		x.Text = unsigned
	}
	return x, api.OK
}

// sizeOf is the size of a number without u, and whether it is right.
func sizeOf(digits string) (int, bool) {
	base := 10
	if strings.HasPrefix(digits, "0x") || strings.HasPrefix(digits, "0X") {
		digits, base = digits[2:], 16
	} else if len(digits) > 1 && digits[0] == '0' {
		return 0, false
	}
	n, err := strconv.ParseUint(digits, base, 32)
	return int(n), err == nil
}

// character reads a character.
func (l *lexer) character() (api.Token, api.Errno) {
	pieces, e := l.pieces(charQuote, api.MaxText)
	switch {
	case e != api.OK:
		return api.Token{}, e
	case len(pieces) != 1:
		return api.Token{}, api.ErrEscape
	}
	return api.Token{Kind: api.TokInt, At: l.from, Int: int(int8(pieces[0]))}, api.OK
}

// texts reads texts with nothing but blank between them, which are one token.
func (l *lexer) texts() (api.Token, api.Errno) {
	first := l.from
	var joined []byte
	for l.seesByte(textQuote) {
		pieces, e := l.pieces(textQuote, api.MaxStr-len(joined))
		if e == api.ErrLong {
			// All of them are too long, not this one alone.
			l.from = first
		}
		if e != api.OK {
			return api.Token{}, e
		}
		joined = append(joined, pieces...)
		if e := l.skip(); e != api.OK {
			return api.Token{}, e
		}
	}
	return api.Token{Kind: api.TokStr, At: first, Text: string(joined)}, api.OK
}

// mark reads a mark.
func (l *lexer) mark() (api.Token, api.Errno) {
	for _, m := range marks {
		if l.sees(m) {
			l.at += len(m)
			return api.Token{Kind: api.TokMark, At: l.from, Text: m}, api.OK
		}
	}
	return api.Token{}, api.ErrToken
}
