package lex_test

import (
	"fmt"
	"math/big"
	"regexp"
	"strconv"
	"strings"
	"testing"

	"catapult/api"
	"catapult/lex"
)

// What the document's chapter says, reckoned apart from the program, in the plainest way: by regular expressions, one thing at a time.

// The chapter's keywords and marks, as they stand there.
const (
	plainKeys  = "void char short int unsigned struct volatile if else while do for switch case default break continue return sizeof jmp_buf"
	plainMarks = "{ } ( ) [ ] ; , . -> ++ -- & * + - ~ ! / % << >> < > <= >= == != ^ | && || ? : = *= /= %= += -= <<= >>= &= ^= |="
)

var (
	plainBlank  = regexp.MustCompile(`^(?s:[\x09-\x0d ]|//[^\n]*|/\*.*?\*/)+`)
	plainWord   = regexp.MustCompile(`^[a-zA-Z_][a-zA-Z_0-9]*`)
	plainDigits = regexp.MustCompile(`^[0-9][a-zA-Z_0-9]*`)
	plainNumber = regexp.MustCompile(`^(?:0[xX]([0-9a-fA-F]+)|(0|[1-9][0-9]*))([uU]?)$`)
	plainPiece  = regexp.MustCompile(`^(?:[ -\[\]-~]|\\[ntr0\\'"]|\\x[0-9a-fA-F][0-9a-fA-F])`)
	plainZero   = regexp.MustCompile(`^\\0[0-9]`)
)

// plainTokens is a text's tokens in the plainest way, and where they end; or the fault.
func plainTokens(s string) ([]api.Token, []int, api.Fault) {
	if len(s) > 65536 {
		return nil, nil, api.Fault{Code: api.ErrLong}
	}
	var l []api.Token
	var ends []int
	bad := func(at int, e api.Errno) ([]api.Token, []int, api.Fault) {
		return nil, nil, api.Fault{At: at, Code: e}
	}
	for at := 0; ; {
		at += len(plainBlank.FindString(s[at:]))
		switch {
		case at == len(s):
			return l, ends, api.Fault{}
		case strings.HasPrefix(s[at:], "/*"):
			return bad(at, api.ErrEnd)
		}
		joins := s[at] == '"' && len(l) > 0 && l[len(l)-1].Kind == api.TokStr
		if len(l) == 16384 && !joins {
			return bad(at, api.ErrLong)
		}
		room := 4096
		if joins {
			room -= len(l[len(l)-1].Text)
		}
		x, n, e := plainToken(s[at:], room)
		switch {
		case e == api.ErrLong && joins:
			return bad(l[len(l)-1].At, e)
		case e != api.OK:
			return bad(at, e)
		case joins:
			l[len(l)-1].Text += x.Text
			ends[len(l)-1] = at + n
		default:
			x.At = at
			l, ends = append(l, x), append(ends, at+n)
		}
		at += n
	}
}

// plainToken is the token that a text begins with, of a text at most so many bytes, and how many bytes it takes; or its error.
func plainToken(s string, room int) (api.Token, int, api.Errno) {
	if w := plainWord.FindString(s); w != "" {
		switch {
		case isIn(plainKeys, w):
			return api.Token{Kind: api.TokKey, Text: w}, len(w), api.OK
		case len(w) > 31:
			return api.Token{}, 0, api.ErrLong
		}
		return api.Token{Kind: api.TokName, Text: w}, len(w), api.OK
	}
	if w := plainDigits.FindString(s); w != "" {
		return plainInt(w)
	}
	if s[0] == '\'' || s[0] == '"' {
		return plainQuoted(s, room)
	}
	for n := 3; n > 0; n-- {
		if len(s) >= n && isIn(plainMarks, s[:n]) {
			return api.Token{Kind: api.TokMark, Text: s[:n]}, n, api.OK
		}
	}
	return api.Token{}, 0, api.ErrToken
}

// plainInt is the number of digits and letters.
func plainInt(w string) (api.Token, int, api.Errno) {
	m := plainNumber.FindStringSubmatch(w)
	if m == nil {
		return api.Token{}, 0, api.ErrNumber
	}
	digits, base := m[2], 10
	if m[1] != "" {
		digits, base = m[1], 16
	}
	n, _ := new(big.Int).SetString(digits, base)
	if n.BitLen() > 32 {
		return api.Token{}, 0, api.ErrNumber
	}
	x := api.Token{Kind: api.TokInt, Int: int(n.Int64())}
	if m[3] != "" || n.Bit(31) == 1 {
		x.Text = "u"
	}
	return x, len(w), api.OK
}

// plainQuoted is the character or text that a text begins with.
func plainQuoted(s string, room int) (api.Token, int, api.Errno) {
	quote, bytes := s[0], ""
	for at := 1; ; {
		if at == len(s) || s[at] == '\n' {
			return api.Token{}, 0, api.ErrEnd
		}
		if s[at] == quote {
			switch {
			case quote == '"':
				return api.Token{Kind: api.TokStr, Text: bytes}, at + 1, api.OK
			case len(bytes) != 1:
				return api.Token{}, 0, api.ErrEscape
			case bytes[0] >= 128:
				return api.Token{Kind: api.TokInt, Int: int(bytes[0]) - 256}, at + 1, api.OK
			}
			return api.Token{Kind: api.TokInt, Int: int(bytes[0])}, at + 1, api.OK
		}
		p := plainPiece.FindString(s[at:])
		if p == "" || plainZero.MatchString(s[at:]) {
			return api.Token{}, 0, api.ErrEscape
		}
		bytes += plainByte(p)
		if quote == '"' && len(bytes) > room {
			return api.Token{}, 0, api.ErrLong
		}
		at += len(p)
	}
}

// plainByte is the byte of a piece.
func plainByte(p string) string {
	switch {
	case len(p) == 1:
		return p
	case len(p) == 4:
		n, _ := strconv.ParseUint(p[2:], 16, 8)
		return string([]byte{byte(n)})
	}
	return strings.NewReplacer("n", "\n", "t", "\t", "r", "\r", "0", "\x00").Replace(p[1:])
}

// isIn tells whether a word is one of a row.
func isIn(row, word string) bool {
	for _, w := range strings.Split(row, " ") {
		if w == word {
			return true
		}
	}
	return false
}

// said is tokens in a row, with their places.
func said(l []api.Token) string {
	var b strings.Builder
	for _, x := range l {
		fmt.Fprintf(&b, "%d:%d %d %q, ", x.At, x.Kind, x.Int, x.Text)
	}
	return b.String()
}

// unplaced is tokens with all places 0.
func unplaced(l []api.Token) []api.Token {
	var to []api.Token
	for _, x := range l {
		x.At = 0
		to = append(to, x)
	}
	return to
}

// same fails where an answer is another one than what is wanted (an empty list is as none).
func same(t *testing.T, what string, got, want any) {
	t.Helper()
	if g, w := fmt.Sprint(got), fmt.Sprint(want); g != w {
		t.Errorf("%.300q: %.600s, want %.600s", what, g, w)
	}
}

// all is what a call answers, in a row.
func all(l ...any) string { return fmt.Sprint(l...) }

// tokens is the tokens of a text that is right.
func tokens(t *testing.T, s string) []api.Token {
	t.Helper()
	l, f := lex.Tokens(s)
	if f != (api.Fault{}) {
		t.Fatalf("Tokens of %.300q: %v", s, f)
	}
	return l
}

// laid is the text of tokens that are right.
func laid(t *testing.T, l []api.Token) string {
	t.Helper()
	s, e := lex.Lay(l)
	if e != api.OK {
		t.Fatalf("Lay of %.300s: %v", said(l), e)
	}
	return s
}

// faulty fails where a text has tokens, or another fault.
func faulty(t *testing.T, s string, at int, e api.Errno) {
	t.Helper()
	l, f := lex.Tokens(s)
	same(t, s, all(len(l), l == nil, f), all(0, true, api.Fault{At: at, Code: e}))
}

// chance is numbers that look as if they came by chance, and are always the same.
type chance uint32

func (c *chance) next() int {
	*c = *c*1664525 + 1013904223
	return int(*c >> 8)
}

func (c *chance) below(n int) int { return c.next() % n }

// of is one of its arguments.
func of[T any](c *chance, l ...T) T { return l[c.below(len(l))] }

// word is one of a row.
func (c *chance) word(row string) string { return of(c, strings.Split(row, " ")...) }

// blank is blank, seldom none.
func (c *chance) blank() string {
	return of(c, " ", " ", "\n", "\t", "  ", "\r\n", "\v\f", "/**/", "/* * / // \" */", "/***/", "//\n", "// /* ' \xff\n", "/*\n//*/", " /*/ */ ", "")
}

// inside is what may stand between quotes, a piece or more; most often right.
func (c *chance) inside() string {
	if c.below(60) == 0 {
		return of(c, `\q`, `\x1`, `\xg0`, `\x0G`, `\`, `\01`, `\09`, "\t", "\x7f", "\x80", "\n", "\r", `'`, `"`, `\N`, `\1`, "\\\n", `\X41`)
	}
	return of(c, "a", "z", " ", "~", "0", "9", "/*", "//", `\n`, `\t`, `\r`, `\0`, `\\`, `\'`, `\"`, `\x00`, `\xfF`, `\x7f`, `\x414`, `\0a`, "?", "_", "u")
}

// bit is a text that is most often a token.
func (c *chance) bit() string {
	switch c.below(13) {
	case 0:
		return c.word(plainKeys)
	case 1, 2, 3:
		return c.word(plainMarks)
	case 4, 5:
		return of(c, "a", "b1", "_", "int_", "Int", "x9_Z", "u", "xyz", strings.Repeat("n", 31), "jmp_bufs", "voi")
	case 6:
		return of(c, "0", "1", "7u", "10U", "2147483647", "2147483648", "4294967295", "0x0", "0X1fU", "0xFFFFFFFF", "0x7fffffffu", "0x80000000", "0u", "0x000000000012")
	case 7:
		if c.below(20) == 0 {
			return of(c, "00", "08", "4294967296", "0x", "0xu", "1a", "0x1g", "1uu", "0x100000000", "1_0", "9999999999999999999999", "0b1", "1U2", strings.Repeat("n", 32), "@", "#", "$", "`", "\\", "\x7f", "\x80", "\x00", "/*", "/* *", "/*/")
		}
		return of(c, "'a'", "'\"'", `'\''`, `'\xff'`, `'\x80'`, `'\x7f'`, `'\0'`, `'\\'`)
	case 8:
		if c.below(20) == 0 {
			return of(c, "''", "'ab'", "'a", "'''", `'\0\0'`)
		}
		return "'" + of(c, c.inside(), "b") + "'"
	}
	s := `"`
	for range c.below(5) {
		s += c.inside()
	}
	if c.below(100) == 0 {
		return s
	}
	return s + `"`
}

// text is bits by chance, with blank between most.
func (c *chance) text() string {
	var b strings.Builder
	for range c.below(of(c, 4, 10, 30)) {
		b.WriteString(of(c, c.blank(), " ", c.blank()+c.blank()))
		b.WriteString(c.bit())
	}
	b.WriteString(of(c, "", "\n", c.blank(), "//", "// end"))
	return b.String()
}
