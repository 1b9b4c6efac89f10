package lex_test

import (
	"fmt"
	"strings"
	"testing"

	"catapult/api"
	"catapult/lex"
)

// name is a name at 0; the others that follow likewise.
func name(s string) api.Token { return api.Token{Kind: api.TokName, Text: s} }

func key(s string) api.Token { return api.Token{Kind: api.TokKey, Text: s} }

func number(n int) api.Token { return api.Token{Kind: api.TokInt, Int: n} }

func unsigned(n int) api.Token { return api.Token{Kind: api.TokInt, Int: n, Text: "u"} }

func str(s string) api.Token { return api.Token{Kind: api.TokStr, Text: s} }

func mark(s string) api.Token { return api.Token{Kind: api.TokMark, Text: s} }

// placed is a token at another place.
func placed(x api.Token, at int) api.Token {
	x.At = at
	return x
}

// row is tokens in a row, with their places; rowOf without.
func row(l ...api.Token) string { return said(l) }

func rowOf(l []api.Token) string { return said(unplaced(l)) }

// The chapter's examples.
func TestExamplesOfTheChapter(t *testing.T) {
	same(t, "a->b++", said(tokens(t, "a->b++")), row(name("a"), placed(mark("->"), 1), placed(name("b"), 3), placed(mark("++"), 4)))
	same(t, "0x1Fu", said(tokens(t, "0x1Fu")), row(unsigned(31)))
	same(t, "2147483648", said(tokens(t, "2147483648")), row(unsigned(2147483648)))
	same(t, `'\xff'`, said(tokens(t, `'\xff'`)), row(number(-1)))
	same(t, `"a" "b"`, said(tokens(t, `"a" "b"`)), row(str("ab")))
	faulty(t, "08", 0, api.ErrNumber)
	faulty(t, "'ab'", 0, api.ErrEscape)
	faulty(t, "/*", 0, api.ErrEnd)
	faulty(t, "@", 0, api.ErrToken)
	same(t, "MaxTokens", lex.MaxTokens, 16384)
}

// 7.1: keywords and names.
func TestWords(t *testing.T) {
	for _, k := range strings.Fields(plainKeys) {
		same(t, k, rowOf(tokens(t, k)), row(key(k)))
		same(t, "a "+k+";", rowOf(tokens(t, "a "+k+";")), row(name("a"), key(k), mark(";")))
		for _, n := range []string{k + "_", "_" + k, k + "0", strings.ToUpper(k), strings.ToUpper(k[:1]) + k[1:]} {
			same(t, n, rowOf(tokens(t, n)), row(name(n)))
		}
		if n := k[:len(k)-1]; !isIn(plainKeys, n) {
			same(t, n, rowOf(tokens(t, n)), row(name(n)))
		}
	}
	for _, n := range []string{"a", "z", "A", "Z", "_", "__", "_0", "a09", "abcdefghijklmnopqrstuvwxyz", "ABCDEFGHIJKLMNOPQRSTUVWXYZ", "_0123456789", "goto", "float", "x" + strings.Repeat("9", 30), "main", "setjmp", "u", "x41", "n"} {
		same(t, n, rowOf(tokens(t, n)), row(name(n)))
	}
	same(t, "a word ends at any other byte", rowOf(tokens(t, "ab-c.d 'x'e\"s\"f/**/g")), row(name("ab"), mark("-"), name("c"), mark("."), name("d"), number('x'), name("e"), str("s"), name("f"), name("g")))
}

// 7.1: each byte begins the token that it begins, or none.
func TestEachByteAlone(t *testing.T) {
	for b := range 256 {
		s := string([]byte{byte(b)})
		switch {
		case b >= 9 && b <= 13 || b == 32:
			same(t, s, rowOf(tokens(t, s)), "")
			same(t, "x"+s+"y", rowOf(tokens(t, "x"+s+"y")), row(name("x"), name("y")))
		case strings.Contains("abcdefghijklmnopqrstuvwxyzABCDEFGHIJKLMNOPQRSTUVWXYZ_", s):
			same(t, s, rowOf(tokens(t, s)), row(name(s)))
		case b >= '0' && b <= '9':
			same(t, s, rowOf(tokens(t, s)), row(number(b-'0')))
		case b == '\'' || b == '"':
			faulty(t, s, 0, api.ErrEnd)
		case strings.Contains("{}()[];,.&*+-~!/%<>^|?:=", s):
			same(t, s, rowOf(tokens(t, s)), row(mark(s)))
		default:
			faulty(t, s, 0, api.ErrToken)
			faulty(t, "xy "+s, 3, api.ErrToken)
			faulty(t, "xy"+s+"@", 2, api.ErrToken)
		}
	}
}

// 7.1: numbers of both bases, with and without u.
func TestNumbers(t *testing.T) {
	for s, want := range map[string]api.Token{
		"0": number(0), "1": number(1), "9": number(9), "10": number(10), "1234567890": number(1234567890),
		"0u": unsigned(0), "0U": unsigned(0), "7u": unsigned(7), "7U": unsigned(7),
		"2147483647": number(1<<31 - 1), "2147483647u": unsigned(1<<31 - 1),
		"2147483648": unsigned(1 << 31), "2147483648u": unsigned(1 << 31), "4294967295": unsigned(1<<32 - 1), "4294967295U": unsigned(1<<32 - 1),
		"0x0": number(0), "0X0": number(0), "0x0u": unsigned(0), "0xa": number(10), "0xA": number(10), "0Xf": number(15), "0XF": number(15), "0x123456": number(0x123456),
		"0xabcdef": number(0xabcdef), "0xABCDEF": number(0xabcdef), "0x1FU": unsigned(31), "0x7890u": unsigned(0x7890),
		"0x7fffffff": number(1<<31 - 1), "0x80000000": unsigned(1 << 31), "0xffffffff": unsigned(1<<32 - 1), "0XFFFFFFFFU": unsigned(1<<32 - 1),
		"0x00000000000000000000000000000000001": number(1), "0x0000000080000000": unsigned(1 << 31),
	} {
		same(t, s, rowOf(tokens(t, s)), row(want))
		same(t, "- "+s+";", said(tokens(t, "- "+s+";")), row(mark("-"), placed(want, 2), placed(mark(";"), 2+len(s))))
	}
	same(t, "zeros", rowOf(tokens(t, "0x"+strings.Repeat("0", 60000)+"f")), row(number(15)))
	same(t, "1.5", rowOf(tokens(t, "1.5-2 3+4")), row(number(1), mark("."), number(5), mark("-"), number(2), number(3), mark("+"), number(4)))
	same(t, "1'a'", rowOf(tokens(t, "1'a'2\"b\"3")), row(number(1), number('a'), number(2), str("b"), number(3)))
}

// 7.1: characters of all bytes, by each piece that there is of them.
func TestCharacters(t *testing.T) {
	for b := range 256 {
		want := b
		if b >= 128 {
			want = b - 256
		}
		for _, form := range []string{`'\x%02x'`, `'\x%02X'`} {
			s := fmt.Sprintf(form, b)
			same(t, s, rowOf(tokens(t, s)), row(number(want)))
		}
		s := "'" + string([]byte{byte(b)}) + "'"
		switch {
		case b == '\n':
			faulty(t, s, 0, api.ErrEnd)
		case b == '\\':
			faulty(t, s, 0, api.ErrEnd)
		case b < 32 || b > 126 || b == '\'':
			faulty(t, s, 0, api.ErrEscape)
		default:
			same(t, s, rowOf(tokens(t, s)), row(number(want)))
		}
		s = `'\` + string([]byte{byte(b)}) + "'"
		if n, ok := map[int]int{'n': 10, 't': 9, 'r': 13, '0': 0, '\\': 92, '\'': 39, '"': 34}[b]; ok {
			same(t, s, rowOf(tokens(t, s)), row(number(n)))
		} else {
			faulty(t, s, 0, api.ErrEscape)
		}
	}
	same(t, "many", said(tokens(t, `'a''\''' '`)), row(number('a'), placed(number('\''), 3), placed(number(' '), 7)))
}

// 7.1: texts of all bytes, by each piece that there is of them.
func TestTexts(t *testing.T) {
	for b := range 256 {
		raw := string([]byte{byte(b)})
		for _, form := range []string{`"a\x%02xb"`, `"a\x%02Xb"`} {
			s := fmt.Sprintf(form, b)
			same(t, s, rowOf(tokens(t, s)), row(str("a"+raw+"b")))
		}
		s := `"(` + raw + `)"`
		switch {
		case b == '\n':
			faulty(t, s, 0, api.ErrEnd)
		case b == '"':
			faulty(t, s, 4, api.ErrEnd)
		case b < 32 || b > 126 || b == '\\':
			faulty(t, s, 0, api.ErrEscape)
		default:
			same(t, s, rowOf(tokens(t, s)), row(str("("+raw+")")))
		}
		s = `"(\` + raw + `)"`
		if n, ok := map[int]string{'n': "\n", 't': "\t", 'r': "\r", '0': "\x00", '\\': `\`, '\'': `'`, '"': `"`}[b]; ok {
			same(t, s, rowOf(tokens(t, s)), row(str("("+n+")")))
		} else {
			faulty(t, s, 0, api.ErrEscape)
		}
	}
	for s, want := range map[string]string{
		`""`: "", `"a"`: "a", `"\0"`: "\x00", `"\0\0"`: "\x00\x00", `"\0a"`: "\x00a", `"\0\x31"`: "\x001", `"\x000"`: "\x000", `"\x414"`: "A4", `"\xfff"`: "\xfff", `"\x41\x42"`: "AB",
		`"//"`: "//", `"/* */"`: "/* */", `"'"`: "'", `"\\"`: `\`, `"\\\""`: `\"`, `"\\n"`: `\n`,
	} {
		same(t, s, rowOf(tokens(t, s+";")), row(str(want), mark(";")))
	}
}

// 7.1: texts with nothing but blank between them are one token, at the first one's place.
func TestTextsAreJoined(t *testing.T) {
	for s, want := range map[string]string{
		`"a""b"`: "ab", `"" ""`: "", `"""""a"`: "a", `"a" "b" "c"`: "abc", "\"a\"\n\t\"b\"": "ab", `"a"/**/"b"`: "ab", "\"a\"//\"b\"\n\"c\"": "ac", `"a" /* "b" */ "c"`: "ac",
		`"\0" "1"`: "\x001", `"\x41" "1"`: "A1", `"\\" "n"`: `\n`, `"" "" "a" ""`: "a",
	} {
		same(t, s, said(tokens(t, s)), row(str(want)))
		same(t, s, said(tokens(t, "x ="+s+";")), row(name("x"), placed(mark("="), 2), placed(str(want), 3), placed(mark(";"), 3+len(s))))
		same(t, s, said(tokens(t, " "+s+" // the end")), row(placed(str(want), 1)))
	}
	same(t, "apart", said(tokens(t, `"a",  "b" 'c' "d"`)), row(str("a"), placed(mark(","), 3), placed(str("b"), 6), placed(number('c'), 10), placed(str("d"), 14)))
}

// 7.1: marks, each alone, and the longest of what comes.
func TestMarks(t *testing.T) {
	marks := strings.Fields(plainMarks)
	same(t, "how many", len(marks), 45)
	for _, m := range marks {
		same(t, m, said(tokens(t, m)), row(mark(m)))
		same(t, m, said(tokens(t, "a"+m+"b")), row(name("a"), placed(mark(m), 1), placed(name("b"), 1+len(m))))
		same(t, m, said(tokens(t, m+" "+m)), row(mark(m), placed(mark(m), 1+len(m))))
	}
	for s, want := range map[string]string{
		"+++": "++ +", "++++": "++ ++", "+++++": "++ ++ +", "---": "-- -", "--->": "-- ->", "-->": "-- >", "->>": "-> >", "->>=": "-> >=", "-->>=": "-- >>=", "<<<": "<< <", "<<<=": "<< <=", "<<==": "<<= =",
		">>>>=": ">> >>=", ">>>=": ">> >=", "===": "== =", "====": "== ==", "!==": "!= =", "!!=": "! !=", "&&&": "&& &", "&&=": "&& =", "&=&": "&= &", "|||": "|| |", "||=": "|| =", "^==": "^= =", "^^": "^ ^",
		"~=": "~ =", "...": ". . .", "..": ". .", "*=*": "*= *", "**": "* *", "/ /": "/ /", "/=/": "/= /", "%%=": "% %=", "<>": "< >", "<-": "< -", "=<": "= <", "=>": "= >", "?:": "? :", "::": ": :", "-=>": "-= >",
		"{}()[]": "{ } ( ) [ ]", ";,.": "; , .", "!~": "! ~", "+=+": "+= +", "<=>": "<= >", "-+": "- +", "*/": "* /", "<<>>": "<< >>",
	} {
		var l []api.Token
		for _, m := range strings.Fields(want) {
			l = append(l, mark(m))
		}
		same(t, s, rowOf(tokens(t, s)), said(l))
	}
}

// 7.1: blank: the six bytes, and comments of both kinds.
func TestBlank(t *testing.T) {
	for _, s := range []string{"", " ", "\t\n\v\f\r ", "//", "// a", "//\n", "//\n//", "///", "//*", "//\\\n", "// 'a", "/**/", "/***/", "/*/*/", "/* // */", "/*\n*/", "/* \" ' @ \x00\xff */", "/**//**/", "/* * / */", "// \x00\xff @", "/*//*/", "//*/", "/* /* */", "/*" + strings.Repeat("*", 100) + "/"} {
		same(t, s, rowOf(tokens(t, s)), "")
		same(t, s, said(tokens(t, "a"+s+"\nb")), row(name("a"), placed(name("b"), len(s)+2)))
	}
	same(t, "behind a comment", rowOf(tokens(t, "a/b/**/c//d\ne/ /f/*/*/g*/h")), row(name("a"), mark("/"), name("b"), name("c"), name("e"), mark("/"), mark("/"), name("f"), name("g"), mark("*"), mark("/"), name("h")))
	same(t, "a line ends by a line feed alone", rowOf(tokens(t, "a//b\rc\fd\ve\nf")), row(name("a"), name("f")))
	same(t, "a comment parts words, numbers and marks", rowOf(tokens(t, "i/**/f 1/**/2 +/**/+ <//\n<=")), row(name("i"), name("f"), number(1), number(2), mark("+"), mark("+"), mark("<"), mark("<=")))
}

// 7.1: IsName and IsKey.
func TestIsNameIsKey(t *testing.T) {
	for _, k := range strings.Fields(plainKeys) {
		same(t, k, all(lex.IsName(k), lex.IsKey(k)), all(false, true))
		same(t, k+" and more", all(lex.IsName(k+"s"), lex.IsKey(k+"s"), lex.IsName(k+" "), lex.IsKey(k+" "), lex.IsKey(" "+k), lex.IsKey(k[1:])), all(true, false, false, false, false, false))
	}
	for s, want := range map[string]bool{
		"": false, "a": true, "_": true, "Z9": true, "9": false, "9a": false, "a b": false, " a": false, "a ": false, "a\n": false, "a-": false, "a.b": false, "\x00": false, "a\x00": false, "ä": false, "a$": false, "@": false,
		strings.Repeat("a", 31): true, strings.Repeat("a", 32): false, strings.Repeat("_", 100000): false, "Int": true, "INT": true, "goto": true, "[": false, "`": false, "{": false, "a/**/": false, "setjmp": true, "0": false, "a[": false, "a{": false, "a`": false, "a/": false, "a:": false,
	} {
		same(t, s, all(lex.IsName(s), lex.IsKey(s)), all(want, false))
	}
	for b := range 256 {
		s := string([]byte{byte(b)})
		letter := b == '_' || b >= 'a' && b <= 'z' || b >= 'A' && b <= 'Z'
		same(t, s, all(lex.IsName(s), lex.IsName("a"+s), lex.IsKey(s)), all(letter, letter || b >= '0' && b <= '9', false))
	}
}

// 7.1: many texts have the tokens that the plainest way has, or its fault.
func TestManyTexts(t *testing.T) {
	right, told := 0, map[api.Errno]int{}
	for seed := range 40000 {
		c := chance(seed * 7919)
		s := c.text()
		want, _, fault := plainTokens(s)
		l, f := lex.Tokens(s)
		if all(said(l), f) != all(said(want), fault) {
			t.Fatalf("text %d, %.400q: %.400s %v, want %.400s %v", seed, s, said(l), f, said(want), fault)
		}
		told[f.Code]++
		if len(l) > 10 {
			right++
		}
	}
	for _, e := range []api.Errno{api.ErrToken, api.ErrEnd, api.ErrEscape, api.ErrNumber, api.ErrLong} {
		if told[e] < 50 {
			t.Errorf("only %d texts have the fault %d", told[e], e)
		}
	}
	if right < 4000 {
		t.Errorf("only %d texts are right, and of some length", right)
	}
}

// 7.1: all texts of few bytes, of those that matter to quotes, comments, numbers and marks.
func TestShortTexts(t *testing.T) {
	for _, bytes := range []string{"'\"\\0a\n", "/*\n\" a", "0x1uf_", "<>=-+&", "\\x4'\"1", "|!^%=&", "\"\\\x80'n "} {
		var try func(s string, more int)
		try = func(s string, more int) {
			want, _, fault := plainTokens(s)
			if l, f := lex.Tokens(s); all(said(l), f) != all(said(want), fault) {
				t.Fatalf("%q: %s %v, want %s %v", s, said(l), f, said(want), fault)
			}
			for i := 0; more > 0 && i < len(bytes); i++ {
				try(s+bytes[i:i+1], more-1)
			}
		}
		try("", 5)
	}
}
