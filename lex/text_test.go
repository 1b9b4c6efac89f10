package lex_test

import (
	"fmt"
	"math"
	"strings"
	"testing"

	"catapult/api"
	"catapult/lex"
)

// 7.2: Quote and Char of each byte.
func TestQuoteEachByte(t *testing.T) {
	for b := range 256 {
		raw := string([]byte{byte(b)})
		text, char := raw, raw
		switch {
		case b == 10:
			text, char = `\n`, `\n`
		case b == 9:
			text, char = `\t`, `\t`
		case b == 13:
			text, char = `\r`, `\r`
		case b == '\\':
			text, char = `\\`, `\\`
		case b == '"':
			text = `\"`
		case b == '\'':
			char = `\'`
		case b < 32 || b > 126:
			text = fmt.Sprintf(`\x%02x`, b)
			char = text
		}
		same(t, raw, lex.Quote(raw), `"`+text+`"`)
		same(t, raw, lex.Quote("0"+raw+"0"+raw), `"0`+text+"0"+text+`"`)
		same(t, raw, lex.Char(byte(b)), "'"+char+"'")
	}
	for s, want := range map[string]string{
		"": `""`, "a b": `"a b"`, "\x00": `"\x00"`, "\x001": `"\x001"`, "\x0fa\xf0": `"\x0fa\xf0"`, "\xab\xcd\xef": `"\xab\xcd\xef"`, "ä": `"\xc3\xa4"`, `\n`: `"\\n"`, "// /* '": `"// /* '"`, "\a\b\f\v?": `"\x07\x08\x0c\x0b?"`, "~\x7f": `"~\x7f"`, " \x1f": `" \x1f"`,
	} {
		same(t, s, lex.Quote(s), want)
	}
	long := strings.Repeat("\xff", 1<<20)
	same(t, "long", len(lex.Quote(long)), 4<<20+2)
}

// 7.2: what is quoted is read as it was.
func TestQuotedIsRead(t *testing.T) {
	var every strings.Builder
	for a := range 256 {
		for b := range 256 {
			s := string([]byte{byte(a), byte(b)})
			same(t, s, said(tokens(t, lex.Quote(s))), row(str(s)))
		}
		every.WriteByte(byte(a))
		same(t, lex.Char(byte(a)), said(tokens(t, lex.Char(byte(a)))), row(number(int(int8(a)))))
	}
	same(t, "every byte", said(tokens(t, lex.Quote(every.String()))), row(str(every.String())))
}

// 7.3: Lay, written out.
func TestLay(t *testing.T) {
	for _, x := range []struct {
		l    []api.Token
		want string
	}{
		{nil, ""},
		{[]api.Token{}, ""},
		{[]api.Token{name("a")}, "a"},
		{[]api.Token{key("int"), name("main"), mark("("), mark(")"), mark("{"), key("return"), number(0), mark(";"), mark("}")}, "int main ( ) { return 0 ; }"},
		{[]api.Token{number(0), number(1), number(127), number(128), number(255), number(256), number(1<<31 - 1)}, "0 1 127 128 255 256 2147483647"},
		{[]api.Token{unsigned(0), unsigned(7), unsigned(1<<31 - 1), unsigned(1 << 31), unsigned(1<<32 - 1)}, "0u 7u 2147483647u 2147483648 4294967295"},
		{[]api.Token{number(-1), number(-128), number(-127), number(-86)}, `'\xff' '\x80' '\x81' '\xaa'`},
		{[]api.Token{number('a'), number('\n')}, "97 10"},
		{[]api.Token{str(""), str("a"), str("a b\n\t\r\\\"'\x00\xff")}, `"" "a" "a b\n\t\r\\\"'\x00\xff"`},
		{[]api.Token{mark("+"), mark("+"), mark("++"), mark("/"), mark("*"), mark(">>=")}, "+ + ++ / * >>="},
		{[]api.Token{name("a"), name("b"), key("if"), name("if_")}, "a b if if_"},
		{[]api.Token{placed(name("a"), 9), placed(mark("-"), -5), placed(number(-2), math.MinInt), placed(str("s"), math.MaxInt)}, `a - '\xfe' "s"`},
	} {
		s, e := lex.Lay(x.l)
		same(t, x.want, all(s, e), all(x.want, api.OK))
	}
	var marks []api.Token
	for _, m := range strings.Fields(plainMarks) {
		marks = append(marks, mark(m))
	}
	same(t, "all marks", laid(t, marks), plainMarks)
	var keys []api.Token
	for _, k := range strings.Fields(plainKeys) {
		keys = append(keys, key(k))
	}
	same(t, "all keywords", laid(t, keys), plainKeys)
}

// 7.3: tokens that are not such as Tokens tells.
func TestLayWrong(t *testing.T) {
	most := strings.Repeat("n", 31)
	for _, x := range []api.Token{
		{}, {Kind: -1}, {Kind: 6}, {Kind: 6, Text: "a"}, {Kind: math.MaxInt}, {Kind: math.MinInt}, {Text: "a"}, {Text: "u", Int: 1},
		name(""), name("int"), name("jmp_buf"), name("9"), name("a b"), name("a "), name(most + "n"), name("+"), name("ä"), {Kind: api.TokName, Text: "a", Int: 1}, {Kind: api.TokName, Text: "a", Int: -1},
		key(""), key("a"), key("Int"), key("int "), key("goto"), {Kind: api.TokKey, Text: "int", Int: 1}, {Kind: api.TokKey, Text: "if", Int: -1},
		number(-129), number(math.MinInt), number(1 << 31), number(1<<32 - 1), number(1 << 32), number(math.MaxInt), unsigned(-1), unsigned(-128), unsigned(1 << 32), unsigned(math.MaxInt), unsigned(math.MinInt),
		{Kind: api.TokInt, Text: "U"}, {Kind: api.TokInt, Text: "uu"}, {Kind: api.TokInt, Text: "1"}, {Kind: api.TokInt, Text: " "}, {Kind: api.TokInt, Int: 1 << 31, Text: "U"}, {Kind: api.TokInt, Int: -1, Text: "a"},
		str(strings.Repeat("a", 4097)), str(strings.Repeat("\x00", 70000)), {Kind: api.TokStr, Int: 1}, {Kind: api.TokStr, Text: "a", Int: -1},
		mark(""), mark("a"), mark("+ "), mark("+++"), mark("#"), mark("//"), mark("/*"), mark("..."), mark("'"), mark("\""), mark("~="), mark("<<<"), mark("{}"), mark("1"), {Kind: api.TokMark, Text: ";", Int: 1}, {Kind: api.TokMark, Text: ";", Int: -1},
	} {
		for _, l := range [][]api.Token{{x}, {name("a"), x}, {x, mark(";")}, {str("s"), x, x, str("s")}} {
			s, e := lex.Lay(l)
			same(t, said(l), all(s, e), all("", api.ErrShape))
		}
	}
}

// 7.3: what is just as long as it may be, and what is longer.
func TestLayLong(t *testing.T) {
	most := strings.Repeat("n", 31)
	longest := strings.Repeat("\x01", 4096)
	same(t, "a name", laid(t, []api.Token{name(most)}), most)
	same(t, "a text", laid(t, []api.Token{str(longest)}), `"`+strings.Repeat(`\x01`, 4096)+`"`)
	many := make([]api.Token, lex.MaxTokens)
	for i := range many {
		many[i] = mark(";")
	}
	same(t, "MaxTokens", laid(t, many) == strings.Repeat("; ", lex.MaxTokens-1)+";", true)
	for _, x := range []api.Token{mark(";"), {}, str(longest + "a")} {
		s, e := lex.Lay(append(many, x))
		same(t, "more than MaxTokens", all(s, e), all("", api.ErrLong))
		s, e = lex.Lay(append([]api.Token{x}, many...))
		same(t, "more than MaxTokens", all(s, e), all("", api.ErrLong))
	}
	many[lex.MaxTokens-1] = api.Token{}
	s, e := lex.Lay(many)
	same(t, "the last one is wrong", all(s, e), all("", api.ErrShape))
	for i := range many {
		many[i] = str(longest[:20])
	}
	same(t, "a text that is too long to be read", len(laid(t, many)), lex.MaxTokens*83-1)
}

// 7.4: lines and places in them.
func TestLine(t *testing.T) {
	for _, x := range []struct {
		s                 string
		at, line, through int
	}{
		{"", 0, 0, 0}, {"a", 0, 0, 0}, {"a", 1, 0, 1}, {"abc", 2, 0, 2}, {"\n", 0, 0, 0}, {"\n", 1, 1, 0}, {"\n\n", 1, 1, 0}, {"\n\n", 2, 2, 0},
		{"ab\ncd\n\ne", 0, 0, 0}, {"ab\ncd\n\ne", 2, 0, 2}, {"ab\ncd\n\ne", 3, 1, 0}, {"ab\ncd\n\ne", 4, 1, 1}, {"ab\ncd\n\ne", 5, 1, 2}, {"ab\ncd\n\ne", 6, 2, 0}, {"ab\ncd\n\ne", 7, 3, 0}, {"ab\ncd\n\ne", 8, 3, 1},
		{"a\r\nb\r", 2, 0, 2}, {"a\r\nb\r", 3, 1, 0}, {"a\r\nb\r", 5, 1, 2}, {"\t\v\f\x00\xff", 5, 0, 5}, {"ä\nä", 5, 1, 2}, {"@ /* \n", 4, 0, 4},
	} {
		line, through, e := lex.Line(x.s, x.at)
		same(t, all(x.s, " at ", x.at), all(line, through, e), all(x.line, x.through, api.OK))
	}
	long := strings.Repeat("ab\n", 1<<20)
	line, through, e := lex.Line(long, 3<<20-1)
	same(t, "a long text", all(line, through, e), all(1<<20-1, 2, api.OK))
	for _, s := range []string{"", "a", "a\nb\n"} {
		for _, at := range []int{-1, len(s) + 1, len(s) + 2, math.MinInt, math.MaxInt} {
			line, through, e := lex.Line(s, at)
			same(t, all(s, " at ", at), all(line, through, e), all(0, 0, api.ErrRange))
		}
	}
}

// 7.4: places by counting, one byte at a time.
func TestLineOfManyTexts(t *testing.T) {
	for seed := range 200 {
		c := chance(seed*31 + 5)
		s := c.text()
		line, through := 0, 0
		for at := 0; at <= len(s); at++ {
			l, n, e := lex.Line(s, at)
			same(t, all(s, " at ", at), all(l, n, e), all(line, through, api.OK))
			through++
			if at < len(s) && s[at] == '\n' {
				line, through = line+1, 0
			}
		}
	}
}
